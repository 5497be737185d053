/- Directive, as it runs. -/
import Derived.Test.YtgldejcneglpnaaGth
import Derived.Test.YtgldejcneglpnaaRdi
set_option linter.unusedVariables false
set_option linter.unusedSimpArgs false
namespace Go.Proofs.Ytgldejcneglpnaa
open Go.RowKit Go.Shelf
attribute [local go_sem] Oper.semAt_some

theorem wpListIn_append_run {F : Fence} {n : Nat} {P : Program} {w w' : World} {ops : Array Oper} {rest : List Oper} {o : Oper} {a : Act} {Q : Exit → Act → World → Prop} (hgd : o.guard = none) (s x : Operand) (t : TypeId)
    (ho : o.op = .call { callee := .builtin .append, args := #[s, x], argTypes := #[t, t] }) {u y v : Value} (hs : a.eval s = u) (hx : a.eval x = y)
    (hrun : (Builtin.append_ #[t, t] o.type #[u, y]).run P w = .ok v w') (h : wpListIn F n P ops Q rest (a.put o.dst v) w') : wpListIn F n P ops Q (o :: rest) a w := by
  refine wpListIn_plain hgd fun K hK' => ?_
  unfold Oper.wpIn
  refine ⟨?_, ?_⟩
  · simp [Oper.about, ho, resolve, Target.leads, Sem.run_pure]
  · rw [Oper.semAt_plain F _ _ (by rw [ho]; intro c hc'; cases hc')]
    simp [execOp, ho, resolve, invoke, builtin, hs, hx, hrun, Result.andThen]
    exact hK' _ _ h

theorem prE_in (t : List Int) : ∀ f k, ∀ x ∈ prF t f k, k ≤ t.length → x.1 < x.2 ∧ x.2 ≤ t.length := by
  intro f
  induction f with
  | zero => intro k x hx; cases hx
  | succ f ih =>
    intro k x hx hk
    rw [prF] at hx
    split at hx
    · rename_i h
      rcases List.mem_cons.1 hx with e | hx
      · subst e
        exact ⟨nE_gt h, nE_le (by omega)⟩
      · exact ih _ x hx (nE_le (by omega))
    · cases hx

def dirL : List (List Int) → Option (ByteArray × ByteArray × ByteArray)
  | [] => none
  | p :: rest => if (p.drop 1).length = 0 ∨ cnt nameP (p.drop 1) < (p.drop 1).length then none else if txt (p.drop 1) = yamlB then verL rest else if txt (p.drop 1) = tagB then prefL rest else some (txt (p.drop 1), ⟨#[]⟩, ⟨#[]⟩)
/-- The parts as lists. -/
def prL (t : List Int) : List (List Int) := ((prE t 0).take 4).map fun x => (t.drop x.1).take (x.2 - x.1)

set_option maxRecDepth 100000 in
set_option maxHeartbeats 4000000 in
theorem dir_any (b o : Nat) (t : List Int) (c : Nat) (w : World) (hn : t.length ≤ 1000000) (hc : t.length ≤ c) (hm : c ≤ maxLen) (h0 : 0 < t.length) (h37 : iAt t 0 = 37) (hI : Is w (some ⟨b, o, none⟩) t) :
    Calls Try.prog 13 #[.slice (some ⟨b, o, none⟩) t.length c] w fun e w' => e = .returned (dirV (dirL (prL t))) ∧ Below w.heap.size w w' := by
  have hn2 : (t.length : Int) ≤ 1000000 := by omega
  have h0' : ((t.length : Int) == 0) = false := by simp; intro e; subst e; simp at h0
  have h0'' : (0 : Int) < t.length := by omega
  have d0 : w.cell? ⟨b, o, none⟩ = some (.int .i64 37) := by
    obtain ⟨b', o', e, hu⟩ := hI.at (by omega)
    cases e
    have d0 := hu 0 h0
    rw [Nat.add_zero, h37] at d0
    exact d0
  have hb0 : bE t 0 = 0 := by
    unfold bE
    rw [List.drop_zero, Nat.zero_add]
    exact (cnt_of (t := t) (k := 0) (.inr ⟨h0, by rw [h37]; decide⟩) rfl).symm
  obtain ⟨e0, he0⟩ : ∃ e0, nE t 0 = e0 := ⟨_, rfl⟩
  have hst := prE_step (t := t) (k := 0) (by rw [hb0]; exact h0)
  have heg : 0 < e0 := by have := nE_gt (t := t) (k := 0) (by rw [hb0]; exact h0); rw [hb0, he0] at this; exact this
  have hel : e0 ≤ t.length := by rw [← he0]; exact nE_le (Nat.zero_le _)
  rw [hb0, he0] at hst
  obtain ⟨T', hT'⟩ : ∃ T', (prE t e0).take 3 = T' := ⟨_, rfl⟩
  have hT0 : (prE t 0).take 4 = (0, e0) :: T' := by rw [hst, ← hT']; rfl
  have hTx : ∀ x ∈ (prE t 0).take 4, x.1 ≤ x.2 ∧ x.2 ≤ t.length := fun x hx => by
    have := prE_in t _ 0 x (List.mem_of_mem_take hx) (Nat.zero_le _)
    omega
  have hTy : ∀ x ∈ (prE t 0), x.1 < x.2 ∧ x.2 ≤ t.length := fun x hx => prE_in t _ 0 x hx (Nat.zero_le _)
  have hTy : Hid _ := hTy
  have hT4 : ((prE t 0).take 4).length ≤ 4 := by simp; omega
  obtain ⟨rest, hrest⟩ : ∃ rest, (T'.map (rowT b o t c)).map (·.t) = rest := ⟨_, rfl⟩
  have HL0 : Hid ((T'.map (rowT b o t c)).map (·.t) = rest) := hrest
  have hF : Fit (T'.map (rowT b o t c)) := fun r hr => by
    obtain ⟨x, hx, rfl⟩ := List.mem_map.1 hr
    have := hTy.out x (List.mem_of_mem_take (by rw [hT0]; simp [hx]))
    simp [rowT]
    omega
  have HF : Hid _ := hF
  have hpl : prL t = t.take e0 :: rest := by
    unfold prL
    rw [hT0, List.map_cons, ← hrest, List.map_map]
    rfl
  obtain ⟨V, hV⟩ : ∃ V, dirV (dirL (prL t)) = V := ⟨_, rfl⟩
  rw [hV]
  rw [hpl, dirL] at hV
  have hR0 : (Value.slice (rowT b o t c (0, e0)).q (rowT b o t c (0, e0)).t.length (rowT b o t c (0, e0)).c) = .slice (some ⟨b, o, none⟩) e0 c := by
    simp [rowT]
    omega
  have hIp := hI.take e0
  have hlp : (t.take e0).length = e0 := by simp; omega
  have hI1 := hIp.drop 1
  have hnl : ((t.take e0).drop 1).length = e0 - 1 := by simp; omega
  have CN : Hid (∀ (W : World), Below w.heap.size w W → Calls Try.prog 21 #[.slice (some ⟨b, o + 1, none⟩) (e0 - 1) (c - 1), .func (.func 22) #[] #[]] W fun e w' => e = .returned (.int .i64 (cnt nameP ((t.take e0).drop 1) : Nat)) ∧ w' = W) := fun W hW => count_name (some ⟨b, o + 1, none⟩) ((t.take e0).drop 1) (e0 - 1) (c - 1) W hnl.symm (by omega) (hI1.on hW)
  have TX : Hid (∀ (W : World), Below w.heap.size w W → Calls Try.prog 23 #[.slice (some ⟨b, o + 1, none⟩) (e0 - 1) (c - 1)] W fun e w' => e = .returned (.string (txt ((t.take e0).drop 1))) ∧ Below W.heap.size W w') := fun W hW => text_any (some ⟨b, o + 1, none⟩) ((t.take e0).drop 1) (e0 - 1) (c - 1) W hnl.symm (by omega) (hI1.on hW)
  have hcl := cnt_le nameP ((t.take e0).drop 1)
  rw [hnl] at hV hcl
  generalize txt ((t.take e0).drop 1) = x at *
  generalize cnt nameP ((t.take e0).drop 1) = cm at *
  obtain ⟨nm, hnm⟩ : ∃ nm, e0 - 1 = nm := ⟨_, rfl⟩
  rw [hnm] at hV hcl CN TX
  have he1 : (1 : Int) ≤ e0 := by omega
  have he2 : (e0 : Int) ≤ c := by omega
  have he3 : (nm : Int) ≤ 1000000 := by omega
  have hc9 : (c : Int) ≤ 9223372036854775807 := by unfold maxLen at hm; omega
  have HV : Hid _ := hV
  have HT0 : Hid _ := hT0
  have HTx : Hid _ := hTx
  have HT4 : Hid _ := hT4
  have HR0 : Hid _ := hR0
  clear hV hT0 hTx hT4 hR0 hrest hF hpl hIp hlp hI1 hnl hst hb0 he0 hT' h37
  refine (callsIn_wide (n := 9)).1 ?_
  have b0 := Boxed.new w 43 (.slice none 0 0)
  have b2 := Boxed.new (w.alloc (.cells #[.slice none 0 0] 43)) 22 (.slice (some ⟨b, o, none⟩) t.length c)
  have hs1 : (w.alloc (.cells #[.slice none 0 0] 43)).heap.size = w.heap.size + 1 := by simp
  rw [hs1] at b2
  have hB1 := (Below.refl w.heap.size w).alloc (Nat.le_refl _) (.cells #[.slice none 0 0] 43)
  have hB2 := hB1.alloc (by simp) (.cells #[.slice (some ⟨b, o, none⟩) t.length c] 22)
  have hs3 : ((w.alloc (.cells #[.slice none 0 0] 43)).alloc (.cells #[.slice (some ⟨b, o, none⟩) t.length c] 22)).heap.size = w.heap.size + 1 + 1 := by simp
  have cb0 := b0.alloc (.cells #[.slice (some ⟨b, o, none⟩) t.length c] 22)
  have SG := fun m => parts_in m (some ⟨b, o, none⟩) t.length c (w.alloc (.cells #[.slice none 0 0] 43))
  have hI2 := hI.on hB2
  refine callsIn_of_wp_marks Try.func13 rfl trivial ?_ rfl
  simp only [Try.ntmps13, List.size_toArray, List.length_cons, List.length_nil, Nat.reduceAdd, Nat.reduceSub, Array.replicate_succ, Array.replicate_zero, List.push_toArray, List.append_toArray, List.nil_append, List.cons_append]
  clear b0 hs1
  gi_wp2_with (first | (refine ⟨trivial, ?_⟩; gi_at_call 30; refine (SG _).mono ?_; rintro e W2 ⟨rfl, rfl⟩))
  generalize ((w.alloc (.cells #[.slice none 0 0] 43)).alloc (.cells #[.slice (some ⟨b, o, none⟩) t.length c] 22)) = W3 at b2 hB2 hs3 cb0 hI2 ⊢
  clear SG hB1
  have hXs := xs_lt (Bb := w.heap.size + 1) (B := W3.heap.size) hI (by omega) (by omega)
  have hXn : ¬ Xs (some ⟨b, o, none⟩) t (w.heap.size + 1) w.heap.size := by
    rintro (h | ⟨h1, a, h2, h3⟩)
    · omega
    · have := hI.lt a h2 h1; omega
  have SQ := parts_seq (9 - 1) (w.heap.size + 1) c b o t (by omega) hc hm W3 b2.cell hI2
  obtain ⟨T, hT⟩ : ∃ T, prE t 0 = T := ⟨_, rfl⟩
  rw [hT] at SQ HT0 HTx HT4 hTy
  clear hT
  refine wpIn_rangeFuncT (gf := 50) (lb := #[.pointer (some ⟨w.heap.size + 1, 0, none⟩)]) rfl (enters_of Try.func50 (by kernel_rfl) rfl) SQ (fun h k => Kq.trans h k) (Kq.putObj hXs) (Below.refl _ _) (fun _ => rfl)
    (fun i W => Id w b o t c T i W ∧ i ≤ 3) (fun cd i W => cd = .exit 0 ∧ i = 4 ∧ Id w b o t c T i W) (fun s A B row h hg hr => ⟨Id.own W3.heap.size (by omega) s A B row h.1 hg hr, h.2⟩) (fun cd s A B row h hg hr => ⟨h.1, h.2.1, Id.own W3.heap.size (by omega) s A B row h.2.2 hg hr⟩)
    ⟨⟨Nat.zero_le _, by omega, _, cb0, World.ownsRow_nil _ _ _ _, (fun g h => by cases h), hB2⟩, by omega⟩
    (fun x => { tmps := #[.slice (some ⟨b, o, none⟩) t.length c, undef, .string ⟨#[]⟩, .string ⟨#[]⟩, .string ⟨#[]⟩, .bool false, .pointer (some ⟨w.heap.size, 0, none⟩), .slice (some ⟨b, o + x.1, none⟩) (x.2 - x.1) (c - x.1), undef, undef, .slice (some ⟨b, o, none⟩) t.length c, .int .i64 (t.length : Nat), .bool false, .bool false, .slice (some ⟨b, o, none⟩) t.length c, .pointer (some ⟨b, o, none⟩), .int .i64 37, .bool false, .bool false, .slice (some ⟨b, o, none⟩) t.length c, .func (.func 50) #[] #[.pointer (some ⟨w.heap.size + 1, 0, none⟩)], .slice (some ⟨b, o + x.1, none⟩) (x.2 - x.1) (c - x.1), undef, undef, undef, undef, undef, undef, undef, undef, undef, undef, undef, undef, undef, undef, undef, undef, undef, undef, undef, undef, undef, undef, undef, undef, undef, undef, undef, undef, undef, undef, undef, undef, undef, undef, undef, undef, undef, undef, undef, undef, undef, undef, undef], defers := [] }) ?assign ?body ?done ?stop
  case assign =>
    intro m l x W K hK
    simp only [encT, Option.map_some, add_plain] at hK ⊢
    gi_wp2
    exact hK
  case body =>
    clear SQ cb0 b2 hI2 CN TX HV HT0 HTx HT4 HR0 HF HL0
    rintro m l i x W hx ⟨⟨hi, hn1, v, hv, ho, hg, hBl⟩, hi3⟩
    have hxt := hTy.out x (List.mem_of_getElem? hx)
    have hil : i < T.length := (List.getElem?_eq_some_iff.1 hx).1
    have hRl : ((T.take i).map (rowT b o t c)).length = i := by simp; omega
    obtain ⟨g, c2, w1, hrun, h2, h3, h4⟩ := pushM_run ho hBl.size (by omega) (rowT b o t c x)
    obtain ⟨hv1, HP, hv2⟩ := Id_step (C := W3.heap.size) (X := Xs (some ⟨b, o, none⟩) t (w.heap.size + 1)) (fun k hk => by have := hXs k hk; omega) hXn hx hn1 hv ho hg hBl h2 h3 h4
    have hcl0 := hv.cell
    have hc1 := hv1.cell
    have hf1 := hv1.frozen
    obtain ⟨va, vk, vc, rfl⟩ := ownsRow_form ho
    have hrv : rowV (rowT b o t c x) = .slice (some ⟨b, o + x.1, none⟩) (x.2 - x.1) (c - x.1) := by simp [rowV, rowT]; omega
    rw [hrv, hRl] at hrun
    rw [hRl] at HP hv2
    have hg1 := hv2.cell
    clear hx h2 h3 h4 ho hg hv hv1 hrv hRl hv2 hTy
    by_cases h4 : i = 3
    · subst h4
      have HP2 : Hid (KeepsFrom (w.heap.size + 1 + 1) W (w1.setCell ⟨w.heap.size, 0, none⟩ (.slice (some ⟨g, 0, none⟩) 4 c2)) ∧ Id w b o t c T 4 (w1.setCell ⟨w.heap.size, 0, none⟩ (.slice (some ⟨g, 0, none⟩) 4 c2))) := by
        rw [← hs3]
        exact ⟨HP.out.1, HP.out.2.2⟩
      clear HP
      gi_wp2_with (first | (gi_at_builtin; refine wpListIn_append_run rfl _ _ 43 rfl rfl rfl hrun ?_))
      exact ⟨by first | exact HP2.out.1 | (rw [hs3]; exact HP2.out.1), rfl, rfl, HP2.out.2⟩
    · have HP2 : Hid (KeepsFrom W3.heap.size W (w1.setCell ⟨w.heap.size, 0, none⟩ (.slice (some ⟨g, 0, none⟩) (i + 1) c2)) ∧ Kq (Xs (some ⟨b, o, none⟩) t (w.heap.size + 1)) W (w1.setCell ⟨w.heap.size, 0, none⟩ (.slice (some ⟨g, 0, none⟩) (i + 1) c2)) ∧ Id w b o t c T (i + 1) (w1.setCell ⟨w.heap.size, 0, none⟩ (.slice (some ⟨g, 0, none⟩) (i + 1) c2)) ∧ i + 1 ≤ 3) := ⟨HP.out.1, HP.out.2.1, HP.out.2.2, by omega⟩
      have h4' : (((i + 1 : Nat) : Int) == 4) = false := by simp; omega
      have hi4 : ((i + 1 : Nat) : Int) ≤ 3 := by omega
      clear HP h4
      generalize i + 1 = i1 at *
      gi_wp2_with (first | (gi_at_builtin; refine wpListIn_append_run rfl _ _ 43 rfl rfl rfl hrun ?_))
      exact HP2.out
  case done =>
    clear SQ cb0 b2 hI2
    rintro D W hD ⟨⟨hi, hn1, v, hv, ho, hg, hBl⟩, hi3⟩ hK
    rw [List.take_of_length_le (Nat.le_refl _)] at ho
    rw [show T = T.take 4 by rw [List.take_of_length_le]; omega] at ho
    obtain ⟨va, k, vc, rfl⟩ := ownsRow_form ho
    have hBl' : Hid (Below w.heap.size w W) := hBl
    obtain ⟨hM, hk, hkc, hcm⟩ := mt_of (w := w) ho (hI.on hBl) hc hm HTx.out
    have hM' := hM
    have hk4 : k ≤ 4 := by rw [hk]; exact HT4.out
    rw [HT0.out, List.map_cons] at hM
    obtain ⟨bb, oo, e, hu⟩ := hM.at (by simp)
    subst e
    have c0 := hu 0 _ rfl
    rw [HR0.out, Nat.add_zero] at c0
    have hk1 : 0 < k := by rw [hk, HT0.out]; simp
    have hk1' : (0 : Int) < k := by omega
    have hk5 : (k : Int) ≤ 4 := by omega
    obtain ⟨p1, S43, hM1⟩ := rows_from hM (cap := vc) (by rw [List.length_cons, List.length_map]; rw [hk, HT0.out, List.length_cons] at hkc; exact hkc) 1 1 rfl (by simp)
    rw [show (rowT b o t c (0, e0) :: T'.map (rowT b o t c)).length = k by rw [hk, HT0.out]; simp, List.drop_one, List.tail_cons] at *
    have hTl : Hid (T'.length = k - 1) := by show T'.length = k - 1; rw [hk, HT0.out]; simp
    clear hk
    have f0 := hv.cell
    have hKlt : D < W.heap.size := (Array.getElem?_eq_some_iff.1 hK).1
    have CN2 := fun m => (callsIn_wide (n := m)).2 (CN.out W hBl)
    by_cases n1 : nm = 0
    · have hV := HV.out
      rw [if_pos (.inl n1), dirV_none] at hV
      subst hV
      subst n1
      have HK2 := hK
      have HBW := hBl
      clear hM hM1 hM' hu CN TX HV HTx HT4 HT0 HR0 HF HL0
      by_cases hc1 : c = 1
      · gi_wp2
        refine ⟨trivial, ?_⟩
        gi_wp2
        refine ⟨by simp, .inl ⟨_, _, rfl, run_takeDeferred (by exact HK2), ?_⟩⟩
        refine ⟨_, results_tmp4 rfl _ _ _, ?_⟩
        exact ⟨rfl, HBW.trans (belowK_b (w := w) (Nat.le_refl _) _ D _ _ (by omega) HK2 rfl rfl)⟩
      · gi_wp2
        refine ⟨trivial, ?_⟩
        gi_wp2
        refine ⟨by simp, .inl ⟨_, _, rfl, run_takeDeferred (by exact HK2), ?_⟩⟩
        refine ⟨_, results_tmp4 rfl _ _ _, ?_⟩
        exact ⟨rfl, HBW.trans (belowK_b (w := w) (Nat.le_refl _) _ D _ _ (by omega) HK2 rfl rfl)⟩
    have hc1 : ¬ c = 1 := by omega
    have n1' : ((nm : Int) == 0) = false := by simpa using n1
    by_cases n2 : cm < nm
    · have hV := HV.out
      rw [if_pos (.inr n2), dirV_none] at hV
      subst hV
      have n2' : (cm : Int) < nm := by omega
      have HK2 := hK
      have HBW := hBl
      clear hM hM1 hM' hu CN TX HV HTx HT4 HT0 HR0 HF HL0
      gi_wp2
      refine ⟨trivial, ?_⟩
      gi_at_call 21
      refine (CN2 _).mono ?_
      rintro e W ⟨rfl, rfl⟩
      gi_wp2
      refine ⟨by simp, .inl ⟨_, _, rfl, run_takeDeferred (by exact HK2), ?_⟩⟩
      refine ⟨_, results_tmp4 rfl _ _ _, ?_⟩
      exact ⟨rfl, HBW.trans (belowK_b (w := w) (Nat.le_refl _) _ D _ _ (by omega) HK2 rfl rfl)⟩
    have n2' : ¬ (cm : Int) < nm := by omega
    have hV := HV.out
    rw [if_neg (fun h => by rcases h with h | h; exact n1 h; exact n2 h)] at hV
    have HV2 : Hid _ := hV
    clear hV
    have TX2 := fun m => (callsIn_wide (n := m)).2 (TX.out W hBl)
    have VR2 := fun (m : Nat) (W2 : World) (hW : Below W.heap.size W W2) => (callsIn_wide (n := m)).2 (version_any p1 (T'.map (rowT b o t c)) (k - 1) (vc - 1) W2 (by have := hTl.out; simp; omega) (by have := hTl.out; simp; omega) (by have := hTl.out; simp; omega) (by omega) HF.out (hM1.on hW))
    have PR2 := fun (m : Nat) (W2 : World) (hW : Below W.heap.size W W2) => (callsIn_wide (n := m)).2 (prefix_any p1 (T'.map (rowT b o t c)) (k - 1) (vc - 1) W2 (by have := hTl.out; simp; omega) (by have := hTl.out; simp; omega) (by have := hTl.out; simp; omega) (by omega) HF.out (hM1.on hW))
    have HL : Hid ((T'.map (rowT b o t c)).map (·.t) = rest) := HL0.out
    rw [HL.out] at VR2 PR2
    have FB : Hid (∀ W2, Below W.heap.size W W2 → W2.cell? ⟨w.heap.size, 0, none⟩ = some (.slice (some ⟨bb, oo, none⟩) k vc)) := fun W2 hW => (boxed_below hv hW).cell
    by_cases n3 : x = yamlB
    · have hV := HV2.out
      rw [if_pos n3] at hV
      obtain ⟨u1, u2, u3, ok, hy⟩ := dirV_form (verL rest)
      rw [hy] at hV VR2
      subst hV
      rw [n3] at TX2
      clear hM hM1 hM' hu CN TX HV HV2 HTx HT4 HT0 HR0 HF HL0 HL
      gi_wp2
      refine ⟨trivial, ?_⟩
      gi_at_call 21
      refine (CN2 _).mono ?_
      rintro e W ⟨rfl, rfl⟩
      gi_wp2
      refine ⟨trivial, ?_⟩
      gi_at_call 23
      refine (TX2 _).mono ?_
      rintro e W2 ⟨rfl, hB2⟩
      have g0 := FB.out _ hB2
      gi_wp2
      refine ⟨trivial, ?_⟩
      gi_at_call 31
      refine (VR2 _ _ hB2).mono ?_
      rintro e W3 ⟨rfl, hB3⟩
      have hB3' := hB2.trans (hB3.mono hB2.size)
      have HK2 := (hB3'.block D hKlt).trans hK
      have HBW := hBl.trans (hB3'.mono hBl.size)
      gi_wp2
      refine ⟨by simp, .inl ⟨_, _, rfl, run_takeDeferred (by exact HK2), ?_⟩⟩
      refine ⟨_, results_tmp4 rfl _ _ _, ?_⟩
      exact ⟨rfl, HBW.trans (belowK_b (w := w) (Nat.le_refl _) _ D _ _ (by omega) HK2 rfl rfl)⟩
    by_cases n4 : x = tagB
    · have hV := HV2.out
      rw [if_neg n3, if_pos n4] at hV
      obtain ⟨u1, u2, u3, ok, hy⟩ := dirV_form (prefL rest)
      rw [hy] at hV PR2
      subst hV
      rw [n4] at TX2
      clear hM hM1 hM' hu CN TX HV HV2 HTx HT4 HT0 HR0 HF HL0 HL
      gi_wp2
      refine ⟨trivial, ?_⟩
      gi_at_call 21
      refine (CN2 _).mono ?_
      rintro e W ⟨rfl, rfl⟩
      gi_wp2
      refine ⟨trivial, ?_⟩
      gi_at_call 23
      refine (TX2 _).mono ?_
      rintro e W2 ⟨rfl, hB2⟩
      have g0 := FB.out _ hB2
      gi_wp2
      refine ⟨trivial, ?_⟩
      gi_at_call 32
      refine (PR2 _ _ hB2).mono ?_
      rintro e W3 ⟨rfl, hB3⟩
      have hB3' := hB2.trans (hB3.mono hB2.size)
      have HK2 := (hB3'.block D hKlt).trans hK
      have HBW := hBl.trans (hB3'.mono hBl.size)
      gi_wp2
      refine ⟨by simp, .inl ⟨_, _, rfl, run_takeDeferred (by exact HK2), ?_⟩⟩
      refine ⟨_, results_tmp4 rfl _ _ _, ?_⟩
      exact ⟨rfl, HBW.trans (belowK_b (w := w) (Nat.le_refl _) _ D _ _ (by omega) HK2 rfl rfl)⟩
    have hV := HV2.out
    rw [if_neg n3, if_neg n4, dirV_some] at hV
    subst hV
    have y1 : (x.toList == [89, 65, 77, 76]) = false := str_ne n3
    have y2 : (x.toList == [84, 65, 71]) = false := str_ne n4
    clear hM hM1 hM' hu CN TX HV HV2 HTx HT4 HT0 HR0 HF HL0 HL
    gi_wp2
    refine ⟨trivial, ?_⟩
    gi_at_call 21
    refine (CN2 _).mono ?_
    rintro e W ⟨rfl, rfl⟩
    gi_wp2
    refine ⟨trivial, ?_⟩
    gi_at_call 23
    refine (TX2 _).mono ?_
    rintro e W2 ⟨rfl, hB2⟩
    have HK2 := (hB2.block D hKlt).trans hK
    have HBW := hBl.trans (hB2.mono hBl.size)
    gi_wp2
    refine ⟨by simp, .inl ⟨_, _, rfl, run_takeDeferred (by exact HK2), ?_⟩⟩
    refine ⟨_, results_tmp4 rfl _ _ _, ?_⟩
    exact ⟨rfl, HBW.trans (belowK_b (w := w) (Nat.le_refl _) _ D _ _ (by omega) HK2 rfl rfl)⟩
  case stop =>
    clear SQ cb0 b2 hI2
    rintro D c' i W hD ⟨rfl, rfl, hi, hn1, v, hv, ho, hg, hBl⟩ hK
    obtain ⟨va, k, vc, rfl⟩ := ownsRow_form ho
    have hBl' : Hid (Below w.heap.size w W) := hBl
    obtain ⟨hM, hk, hkc, hcm⟩ := mt_of (w := w) ho (hI.on hBl) hc hm HTx.out
    have hM' := hM
    have hk4 : k ≤ 4 := by rw [hk]; exact HT4.out
    rw [HT0.out, List.map_cons] at hM
    obtain ⟨bb, oo, e, hu⟩ := hM.at (by simp)
    subst e
    have c0 := hu 0 _ rfl
    rw [HR0.out, Nat.add_zero] at c0
    have hk1 : 0 < k := by rw [hk, HT0.out]; simp
    have hk1' : (0 : Int) < k := by omega
    have hk5 : (k : Int) ≤ 4 := by omega
    obtain ⟨p1, S43, hM1⟩ := rows_from hM (cap := vc) (by rw [List.length_cons, List.length_map]; rw [hk, HT0.out, List.length_cons] at hkc; exact hkc) 1 1 rfl (by simp)
    rw [show (rowT b o t c (0, e0) :: T'.map (rowT b o t c)).length = k by rw [hk, HT0.out]; simp, List.drop_one, List.tail_cons] at *
    have hTl : Hid (T'.length = k - 1) := by show T'.length = k - 1; rw [hk, HT0.out]; simp
    clear hk
    have f0 := hv.cell
    have hKlt : D < W.heap.size := (Array.getElem?_eq_some_iff.1 hK).1
    have CN2 := fun m => (callsIn_wide (n := m)).2 (CN.out W hBl)
    by_cases n1 : nm = 0
    · have hV := HV.out
      rw [if_pos (.inl n1), dirV_none] at hV
      subst hV
      subst n1
      have HK2 := hK
      have HBW := hBl
      clear hM hM1 hM' hu CN TX HV HTx HT4 HT0 HR0 HF HL0
      by_cases hc1 : c = 1
      · gi_wp2
        refine ⟨trivial, ?_⟩
        gi_wp2
        refine ⟨by simp, .inl ⟨_, _, rfl, run_takeDeferred (by exact HK2), ?_⟩⟩
        refine ⟨_, results_tmp4 rfl _ _ _, ?_⟩
        exact ⟨rfl, HBW.trans (belowK_b (w := w) (Nat.le_refl _) _ D _ _ (by omega) HK2 rfl rfl)⟩
      · gi_wp2
        refine ⟨trivial, ?_⟩
        gi_wp2
        refine ⟨by simp, .inl ⟨_, _, rfl, run_takeDeferred (by exact HK2), ?_⟩⟩
        refine ⟨_, results_tmp4 rfl _ _ _, ?_⟩
        exact ⟨rfl, HBW.trans (belowK_b (w := w) (Nat.le_refl _) _ D _ _ (by omega) HK2 rfl rfl)⟩
    have hc1 : ¬ c = 1 := by omega
    have n1' : ((nm : Int) == 0) = false := by simpa using n1
    by_cases n2 : cm < nm
    · have hV := HV.out
      rw [if_pos (.inr n2), dirV_none] at hV
      subst hV
      have n2' : (cm : Int) < nm := by omega
      have HK2 := hK
      have HBW := hBl
      clear hM hM1 hM' hu CN TX HV HTx HT4 HT0 HR0 HF HL0
      gi_wp2
      refine ⟨trivial, ?_⟩
      gi_at_call 21
      refine (CN2 _).mono ?_
      rintro e W ⟨rfl, rfl⟩
      gi_wp2
      refine ⟨by simp, .inl ⟨_, _, rfl, run_takeDeferred (by exact HK2), ?_⟩⟩
      refine ⟨_, results_tmp4 rfl _ _ _, ?_⟩
      exact ⟨rfl, HBW.trans (belowK_b (w := w) (Nat.le_refl _) _ D _ _ (by omega) HK2 rfl rfl)⟩
    have n2' : ¬ (cm : Int) < nm := by omega
    have hV := HV.out
    rw [if_neg (fun h => by rcases h with h | h; exact n1 h; exact n2 h)] at hV
    have HV2 : Hid _ := hV
    clear hV
    have TX2 := fun m => (callsIn_wide (n := m)).2 (TX.out W hBl)
    have VR2 := fun (m : Nat) (W2 : World) (hW : Below W.heap.size W W2) => (callsIn_wide (n := m)).2 (version_any p1 (T'.map (rowT b o t c)) (k - 1) (vc - 1) W2 (by have := hTl.out; simp; omega) (by have := hTl.out; simp; omega) (by have := hTl.out; simp; omega) (by omega) HF.out (hM1.on hW))
    have PR2 := fun (m : Nat) (W2 : World) (hW : Below W.heap.size W W2) => (callsIn_wide (n := m)).2 (prefix_any p1 (T'.map (rowT b o t c)) (k - 1) (vc - 1) W2 (by have := hTl.out; simp; omega) (by have := hTl.out; simp; omega) (by have := hTl.out; simp; omega) (by omega) HF.out (hM1.on hW))
    have HL : Hid ((T'.map (rowT b o t c)).map (·.t) = rest) := HL0.out
    rw [HL.out] at VR2 PR2
    have FB : Hid (∀ W2, Below W.heap.size W W2 → W2.cell? ⟨w.heap.size, 0, none⟩ = some (.slice (some ⟨bb, oo, none⟩) k vc)) := fun W2 hW => (boxed_below hv hW).cell
    by_cases n3 : x = yamlB
    · have hV := HV2.out
      rw [if_pos n3] at hV
      obtain ⟨u1, u2, u3, ok, hy⟩ := dirV_form (verL rest)
      rw [hy] at hV VR2
      subst hV
      rw [n3] at TX2
      clear hM hM1 hM' hu CN TX HV HV2 HTx HT4 HT0 HR0 HF HL0 HL
      gi_wp2
      refine ⟨trivial, ?_⟩
      gi_at_call 21
      refine (CN2 _).mono ?_
      rintro e W ⟨rfl, rfl⟩
      gi_wp2
      refine ⟨trivial, ?_⟩
      gi_at_call 23
      refine (TX2 _).mono ?_
      rintro e W2 ⟨rfl, hB2⟩
      have g0 := FB.out _ hB2
      gi_wp2
      refine ⟨trivial, ?_⟩
      gi_at_call 31
      refine (VR2 _ _ hB2).mono ?_
      rintro e W3 ⟨rfl, hB3⟩
      have hB3' := hB2.trans (hB3.mono hB2.size)
      have HK2 := (hB3'.block D hKlt).trans hK
      have HBW := hBl.trans (hB3'.mono hBl.size)
      gi_wp2
      refine ⟨by simp, .inl ⟨_, _, rfl, run_takeDeferred (by exact HK2), ?_⟩⟩
      refine ⟨_, results_tmp4 rfl _ _ _, ?_⟩
      exact ⟨rfl, HBW.trans (belowK_b (w := w) (Nat.le_refl _) _ D _ _ (by omega) HK2 rfl rfl)⟩
    by_cases n4 : x = tagB
    · have hV := HV2.out
      rw [if_neg n3, if_pos n4] at hV
      obtain ⟨u1, u2, u3, ok, hy⟩ := dirV_form (prefL rest)
      rw [hy] at hV PR2
      subst hV
      rw [n4] at TX2
      clear hM hM1 hM' hu CN TX HV HV2 HTx HT4 HT0 HR0 HF HL0 HL
      gi_wp2
      refine ⟨trivial, ?_⟩
      gi_at_call 21
      refine (CN2 _).mono ?_
      rintro e W ⟨rfl, rfl⟩
      gi_wp2
      refine ⟨trivial, ?_⟩
      gi_at_call 23
      refine (TX2 _).mono ?_
      rintro e W2 ⟨rfl, hB2⟩
      have g0 := FB.out _ hB2
      gi_wp2
      refine ⟨trivial, ?_⟩
      gi_at_call 32
      refine (PR2 _ _ hB2).mono ?_
      rintro e W3 ⟨rfl, hB3⟩
      have hB3' := hB2.trans (hB3.mono hB2.size)
      have HK2 := (hB3'.block D hKlt).trans hK
      have HBW := hBl.trans (hB3'.mono hBl.size)
      gi_wp2
      refine ⟨by simp, .inl ⟨_, _, rfl, run_takeDeferred (by exact HK2), ?_⟩⟩
      refine ⟨_, results_tmp4 rfl _ _ _, ?_⟩
      exact ⟨rfl, HBW.trans (belowK_b (w := w) (Nat.le_refl _) _ D _ _ (by omega) HK2 rfl rfl)⟩
    have hV := HV2.out
    rw [if_neg n3, if_neg n4, dirV_some] at hV
    subst hV
    have y1 : (x.toList == [89, 65, 77, 76]) = false := str_ne n3
    have y2 : (x.toList == [84, 65, 71]) = false := str_ne n4
    clear hM hM1 hM' hu CN TX HV HV2 HTx HT4 HT0 HR0 HF HL0 HL
    gi_wp2
    refine ⟨trivial, ?_⟩
    gi_at_call 21
    refine (CN2 _).mono ?_
    rintro e W ⟨rfl, rfl⟩
    gi_wp2
    refine ⟨trivial, ?_⟩
    gi_at_call 23
    refine (TX2 _).mono ?_
    rintro e W2 ⟨rfl, hB2⟩
    have HK2 := (hB2.block D hKlt).trans hK
    have HBW := hBl.trans (hB2.mono hBl.size)
    gi_wp2
    refine ⟨by simp, .inl ⟨_, _, rfl, run_takeDeferred (by exact HK2), ?_⟩⟩
    refine ⟨_, results_tmp4 rfl _ _ _, ?_⟩
    exact ⟨rfl, HBW.trans (belowK_b (w := w) (Nat.le_refl _) _ D _ _ (by omega) HK2 rfl rfl)⟩

/-- A directive, in plain terms. -/
def dirP (t : List Int) : Option (ByteArray × ByteArray × ByteArray) := if t.length = 0 ∨ iAt t 0 ≠ 37 then none else dirL (prL t)

set_option maxRecDepth 100000 in
set_option maxHeartbeats 1000000 in
theorem Directive_any (q : Option Addr) (t : List Int) (n c : Nat) (w : World) (hl : n = t.length) (hn : t.length ≤ 1000000) (hc : t.length ≤ c) (hm : c ≤ maxLen) (hI : Is w q t) :
    Calls Try.prog 13 #[.slice q n c] w fun e w' => e = .returned (dirV (dirP t)) ∧ Below w.heap.size w w' := by
  subst hl
  have hn2 : (t.length : Int) ≤ 1000000 := by omega
  obtain ⟨V, hV⟩ : ∃ V, dirP t = V := ⟨_, rfl⟩
  rw [hV]
  unfold dirP at hV
  by_cases h0 : t.length = 0
  · rw [if_pos (.inl h0)] at hV
    subst hV
    rw [dirV_none]
    rw [h0]
    have e0 : ((0 : Nat) : Int) = 0 := rfl
    go_enter Try.func13, Try.ntmps13
    go_wp2
    refine bodyPost_ret (results_tmp4 rfl _ _ _) rfl ?_
    exact ⟨rfl, Below.refl _ _⟩
  obtain ⟨b, o, rfl, hu⟩ := hI.at (by omega)
  by_cases h1 : iAt t 0 = 37
  · rw [if_neg (fun h => by rcases h with h | h; exact h0 h; exact h h1)] at hV
    subst hV
    exact dir_any b o t c w hn hc hm (by omega) h1 hI
  · rw [if_pos (.inr h1)] at hV
    subst hV
    rw [dirV_none]
    have h0' : ((t.length : Int) == 0) = false := by simp; intro e; subst e; simp at h0
    have h0'' : (0 : Int) < t.length := by omega
    have c0 := hu 0 (by omega)
    rw [Nat.add_zero] at c0
    have h1' : (iAt t 0 == 37) = false := by simpa using h1
    generalize iAt t 0 = x at c0 h1'
    clear hu hI h1 h0
    go_enter Try.func13, Try.ntmps13
    go_wp2
    refine bodyPost_ret (results_tmp4 rfl _ _ _) rfl ?_
    exact ⟨rfl, Below.refl _ _⟩
end Go.Proofs.Ytgldejcneglpnaa
