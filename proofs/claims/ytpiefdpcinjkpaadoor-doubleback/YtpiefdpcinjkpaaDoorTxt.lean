/- text: what the draft is folded to, and what its escapes stand for. -/
import Derived.Test.YtpiefdpcinjkpaaDoorDrf
import Derived.Test.YtpiefdpcinjkpaaDoorOps
import Derived.Test.YtpiefdpcinjkpaaDoorRefB
set_option linter.unusedVariables false
set_option linter.unusedSimpArgs false
namespace Go.Proofs.YtpiefdpcinjkpaaDoor
open Go.RowKit Go.Shelf

theorem mt_of_own {W : World} {base : Nat} {p : Option Addr} {k c : Nat} {R : List Row} (h : OwnsM W base (.slice p k c) R) (hr : ∀ r, r ∈ R → Rok W r) : Mt W p R ∧ k = R.length ∧ k ≤ c ∧ c ≤ maxLen := by
  have h' := h
  refine ⟨⟨fun j r hj => hr r (List.mem_of_getElem? hj), ?_⟩, ?_⟩
  · obtain ⟨hl, ⟨e, e2⟩ | ⟨g, cap, cur, e, hb, hg, h1, h2, h3, h4⟩⟩ := h'
    · exact .inl (List.eq_nil_of_length_eq_zero e2)
    · cases e
      refine .inr ⟨g, 0, rfl, fun j r hj => ?_⟩
      have := h.cells (g := g) rfl j (rowV r) (by simp [hj])
      rw [add_plain] at this
      exact this
  · obtain ⟨hl, ⟨e, e2⟩ | ⟨g, cap, cur, e, hb, hg, h1, h2, h3, h4⟩⟩ := h'
    · cases e; exact ⟨e2.symm, Nat.le_refl _, by unfold maxLen; omega⟩
    · cases e; exact ⟨rfl, h1, h2⟩

/-- What the first k signs of a folded text are, once their escapes are told; how many escapes they have. -/
def fillS (mt : List Int) (s : List Int × Nat) (c : Int) : List Int × Nat :=
  if c = 92 then (if iAt mt s.2 = -1 then (s.1, s.2 + 1) else (s.1 ++ [iAt mt s.2], s.2 + 1)) else (s.1 ++ [c], s.2)
def fillP (mt T : List Int) : List Int × Nat := T.foldl (fillS mt) ([], 0)
theorem fillP_snoc (mt T : List Int) (c : Int) : fillP mt (T ++ [c]) = fillS mt (fillP mt T) c := by simp [fillP]
theorem fill_gen (mt : List Int) : ∀ (T : List Int) (s : List Int × Nat), (T.foldl (fillS mt) s).2 = s.2 + T.count 92 ∧ (T.foldl (fillS mt) s).1.length ≤ s.1.length + T.length
  | [], s => by simp
  | c :: T, s => by
    obtain ⟨h1, h2⟩ := fill_gen mt T (fillS mt s c)
    rw [List.foldl_cons, h1, List.count_cons, List.length_cons]
    have h3 : (fillS mt s c).2 = s.2 + (if (c == 92) = true then 1 else 0) ∧ (fillS mt s c).1.length ≤ s.1.length + 1 := by
      unfold fillS
      by_cases hc : c = 92
      · subst hc
        rw [if_pos rfl]
        split
        · simp
        · simp
      · rw [if_neg hc]
        simp [hc]
    omega
theorem fillP_count (mt T : List Int) : (fillP mt T).2 = T.count 92 ∧ (fillP mt T).1.length ≤ T.length := by
  have := fill_gen mt T ([], 0)
  simpa [fillP] using this

theorem count_take (T : List Int) (k : Nat) (hk : k < T.length) (hc : iAt T k = 92) : (T.take k).count 92 < T.count 92 := by
  have h1 : T = T.take k ++ T.drop k := (List.take_append_drop k T).symm
  have h2 : T.count 92 = (T.take k).count 92 + (T.drop k).count 92 := by rw [← List.count_append, ← h1]
  rw [drop_at hk, hc, List.count_cons_self] at h2
  omega

set_option maxRecDepth 100000 in
set_option maxHeartbeats 2000000 in
theorem text_any (n₀ D : Nat) (X : Nat → Prop) (w : World) (vl vc vm : Value) (R : List Row) (cur mt : List Int) (op : Bool) (hd : Dr n₀ D X w vl vc vm R cur op mt) (hS : Sized R) (hT : (flowT R).length ≤ 2199025352704) (hc : (flowT R).count 92 ≤ mt.length) :
    Calls Tryd.prog 20 #[.pointer (some ⟨D, 0, none⟩)] w fun e w' => ∃ v, e = .returned v ∧ Owns w' w.heap.size v (fillP mt (flowT R)).1 ∧ Below w.heap.size w w' := by
  obtain ⟨la, lk, lq, rfl⟩ := ownsRow_form hd.l
  obtain ⟨hM, rfl, -, -⟩ := mt_of_own hd.l (fun r hr => (hd.rows r hr).1)
  have FL := Flow_any la R lq w hS hM
  obtain ⟨ma, mk, mq, rfl⟩ := ownsRow_form hd.m
  obtain ⟨hIm, rfl, hmk, hmq⟩ := is_of_row hd.m
  obtain ⟨d0, d1, d2, d3, -, -, -, -⟩ := dr_cell hd.blk
  have hDl := (Array.getElem?_eq_some_iff.1 hd.blk).1
  have hmq2 : (mt.length : Int) ≤ 9223372036854775807 := by unfold maxLen at hmq; omega
  generalize flowT R = T at FL hT hc ⊢
  clear hd hM
  go_enter Tryd.func20, Tryd.ntmps20
  go_wp2_with (first | (go_at_call 29; refine FL.mono ?_; rintro e W1 ⟨v1, rfl, ho1, hb1⟩; obtain ⟨q1, k1, c1, rfl⟩ := ownsRow_form ho1; obtain ⟨hI1, rfl, -, -⟩ := is_of_row ho1))
  have e3 : W1.cell? ⟨D, 3, none⟩ = some (.slice ma mt.length mq) := (hb1.cell (p := ⟨D, 3, none⟩) hDl).trans d3
  have hIm1 := hIm.on hb1
  have hDl1 : D < W1.heap.size := Nat.lt_of_lt_of_le hDl hb1.size
  clear d0 d1 d2 d3 FL ho1
  go_loopw [3, 4, 13] (fun ov jv iv wr => ∃ (k : Nat), k ≤ T.length ∧ iv = .int .i64 k ∧ jv = .int .i64 ((fillP mt (T.take k)).2 : Nat) ∧ Owns wr W1.heap.size ov (fillP mt (T.take k)).1 ∧ Below W1.heap.size W1 wr) (fun _ _ iv _ => T.length - (intOf iv).toNat)
  case atStart => exact ⟨0, Nat.zero_le _, rfl, rfl, World.ownsRow_nil _ _ 3 1, Below.refl _ _⟩
  case round =>
    obtain ⟨k, hk, rfl, rfl, ho, hb⟩ := hrel
    by_cases hlt : k < T.length
    · have hli : (k : Int) < T.length := by omega
      obtain ⟨b, o, rfl, hu⟩ := (hI1.on hb).at (by omega)
      have c0 := hu k hlt
      have g3 := (hb.cell (p := ⟨D, 3, none⟩) hDl1).trans e3
      obtain ⟨hn1, hn2⟩ := fillP_count mt (T.take k)
      have hn3 : (T.take k).length ≤ 2199025352704 := by rw [List.length_take]; omega
      have HS : Hid (fillP mt (T.take (k + 1)) = fillS mt (fillP mt (T.take k)) (iAt T k)) := by show _ = _; rw [take_more' hlt, fillP_snoc]
      have HC : Hid (iAt T k = 92 → (fillP mt (T.take k)).2 < mt.length) := fun h => by
        have := count_take T k hlt h
        omega
      generalize fillP mt (T.take k) = fs at ho hn1 hn2 HS HC ⊢
      obtain ⟨out, j⟩ := fs
      dsimp only at ho hn1 hn2 HS HC ⊢
      clear hu hn1
      by_cases hx : iAt T k = 92
      · have hj := HC.out hx
        have hj' : (j : Int) < mt.length := by omega
        obtain ⟨b2, o2, rfl, hu2⟩ := (hIm1.on hb).at (by omega)
        have c2 := hu2 j hj
        by_cases hm1 : iAt mt j = -1
        · have HS' : Hid (fillP mt (T.take (k + 1)) = (out, j + 1)) := by
            show _ = _
            rw [HS.out]; unfold fillS; rw [if_pos hx]; dsimp only; rw [if_pos hm1]
          rw [hx] at c0
          rw [hm1] at c2
          clear hu2 HS HC
          go_wp2
          go_roundw
          case rel => exact ⟨k + 1, by omega, by go_num, by rw [HS'.out]; go_num, by rw [HS'.out]; exact ho, hb⟩
          case measure => simp [intOf]; omega
        · have HS' : Hid (fillP mt (T.take (k + 1)) = (out ++ [iAt mt j], j + 1)) := by
            show _ = _
            rw [HS.out]; unfold fillS; rw [if_pos hx]; dsimp only; rw [if_neg hm1]
          have hm1' : (iAt mt j == -1) = false := by simpa using hm1
          rw [hx] at c0
          generalize iAt mt j = m at c2 hm1 hm1' HS'
          obtain ⟨va, vk, vq, rfl⟩ := ownsRow_form ho
          obtain ⟨v4, W4, hr4, ho4, hb4⟩ := push1w ho hb.size (by omega) m
          obtain ⟨v4a, v4k, v4c, rfl⟩ := ownsRow_form ho4
          clear hu2 HS HC
          go_wp2_with (first | (at_builtin; refine wpList_append_run (u := .slice va vk vq) (y := .slice (some ⟨wr.heap.size, 0, none⟩) 1 1) rfl _ _ 25 rfl rfl rfl hr4 ?_; clear hr4))
          go_roundw
          case rel => exact ⟨k + 1, by omega, by go_num, by rw [HS'.out]; go_num, by rw [HS'.out]; exact ho4, hb.trans hb4⟩
          case measure => simp [intOf]; omega
      · have HS' : Hid (fillP mt (T.take (k + 1)) = (out ++ [iAt T k], j)) := by
          show _ = _
          rw [HS.out]; unfold fillS; rw [if_neg hx]
        have hx' : (iAt T k == 92) = false := by simpa using hx
        generalize iAt T k = m at c0 hx hx' HS'
        obtain ⟨va, vk, vq, rfl⟩ := ownsRow_form ho
        obtain ⟨v4, W4, hr4, ho4, hb4⟩ := push1w ho hb.size (by omega) m
        obtain ⟨v4a, v4k, v4c, rfl⟩ := ownsRow_form ho4
        clear HS HC
        go_wp2_with (first | (at_builtin; refine wpList_append_run (u := .slice va vk vq) (y := .slice (some ⟨wr.heap.size, 0, none⟩) 1 1) rfl _ _ 25 rfl rfl rfl hr4 ?_; clear hr4))
        go_roundw
        case rel => exact ⟨k + 1, by omega, by go_num, by rw [HS'.out], by rw [HS'.out]; exact ho4, hb.trans hb4⟩
        case measure => simp [intOf]; omega
    · obtain rfl : k = T.length := by omega
      rw [List.take_length] at ho
      obtain ⟨va, vk, vq, rfl⟩ := ownsRow_form ho
      go_wp2
      go_ret
      exact ⟨_, rfl, ownsRow_mono ho hb1.size, hb1.trans (hb.mono hb1.size)⟩
end Go.Proofs.YtpiefdpcinjkpaaDoor
