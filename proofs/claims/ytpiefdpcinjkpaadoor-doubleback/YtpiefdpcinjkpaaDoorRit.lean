/- The document's own items: the items of a line. -/
import Derived.Test.YtpiefdpcinjkpaaDoorRes
set_option linter.unusedVariables false
set_option linter.unusedSimpArgs false
namespace Go.Proofs.YtpiefdpcinjkpaaDoor
open Go.RowKit Go.Shelf

theorem Tryd.info50 : (Tryd.prog.info? 50).map (fun i => (i.zero, i.size, i.bytes)) = some (some (.agg #[.int .i64 0, .bool false]), 2, 16) := by kernel_rfl
def cellsI (l : List Item) : List Value := l.flatMap fun x => [.int .i64 x.1, .bool x.2]
theorem cellsI_len (l : List Item) : (cellsI l).length = l.length * 2 := by
  induction l with
  | nil => rfl
  | cons x l ih => simp [cellsI] at ih ⊢; omega
theorem cellsI_app (a b : List Item) : cellsI (a ++ b) = cellsI a ++ cellsI b := by simp [cellsI]
/-- A slice of items of the call's own. -/
abbrev OwnsI (W : World) (base : Nat) (v : Value) (l : List Item) : Prop := W.ownsRow base 50 2 v l.length (cellsI l)

theorem pushI {w : World} {base : Nat} {v : Value} {l : List Item} (h : OwnsI w base v l) (hb : base ≤ w.heap.size) (hn : l.length + 1 ≤ 1099511627776) (c : Int) (hd : Bool) :
    ∃ g cap w1, (Builtin.append_ #[45, 45] 45 #[v, .slice (some ⟨w.heap.size, 0, none⟩) 1 1]).run Tryd.prog (w.alloc (.cells #[.int .i64 c, .bool hd] 50)) = .ok (.slice (some ⟨g, 0, none⟩) (l.length + 1) cap) w1 ∧
      OwnsI w1 base (.slice (some ⟨g, 0, none⟩) (l.length + 1) cap) (l ++ [(c, hd)]) ∧ Below base w w1 := by
  obtain ⟨i0, hi, hz0, hz1, hz2⟩ := info_parts Tryd.info50
  have hnew := World.alloc_heap_new w (.cells #[.int .i64 c, .bool hd] 50)
  obtain ⟨g, cap, w1, h1, h2, h3, h4, -⟩ := run_append_lies (P := Tryd.prog) (w.alloc (.cells #[.int .i64 c, .bool hd] 50)) 45 45 base 50 i0 (.agg #[.int .i64 0, .bool false]) 2 16 Tryd.underlying45 hi hz0 hz1 hz2 rfl (by decide)
    v l.length (cellsI l) (h.alloc _) ⟨w.heap.size, 0, none⟩ 1 1 [.int .i64 c, .bool hd] rfl (by
      intro j u hu
      rw [add_plain]
      match j, hu with
      | 0, hu => cases hu; unfold World.cell?; dsimp only; rw [hnew]; rfl
      | 1, hu => cases hu; unfold World.cell?; dsimp only; rw [Nat.zero_add, hnew]; rfl
      | j + 2, hu => simp at hu) (by simp [Value.oneCell']) (by decide) (by unfold maxLen; omega) (by omega) (by simp; omega) (w.heap.size + 1) (by simp)
  refine ⟨g, cap, w1, h1, ?_, ?_⟩
  · show w1.ownsRow base 50 2 _ (l ++ [(c, hd)]).length (cellsI (l ++ [(c, hd)]))
    rw [cellsI_app, List.length_append]
    exact h2
  · refine ((Below.refl base w).alloc hb _).trans ((Below.refl base _).grown h3 (by simp; omega) (fun k e => ?_))
    rcases h.2 with ⟨rfl, -⟩ | ⟨g', cap, cur, rfl, hb', -⟩
    · cases e
    · cases e; exact hb'

/-- A slice of items that is read. -/
def Ii (w : World) (p : Option Addr) (l : List Item) : Prop :=
  l = [] ∨ ∃ b o, p = some ⟨b, o, none⟩ ∧ ∀ j x, l[j]? = some x → w.cell? ⟨b, o + 2 * j, none⟩ = some (.int .i64 x.1) ∧ w.cell? ⟨b, o + 2 * j + 1, none⟩ = some (.bool x.2)
theorem Ii.at {w : World} {p : Option Addr} {l : List Item} (h : Ii w p l) (hl : 0 < l.length) : ∃ b o, p = some ⟨b, o, none⟩ ∧ ∀ j x, l[j]? = some x → w.cell? ⟨b, o + 2 * j, none⟩ = some (.int .i64 x.1) ∧ w.cell? ⟨b, o + 2 * j + 1, none⟩ = some (.bool x.2) := by
  rcases h with rfl | h
  · simp at hl
  · exact h
theorem Ii.on {A B : World} {p : Option Addr} {l : List Item} (h : Ii A p l) (hb : Below A.heap.size A B) : Ii B p l := by
  rcases h with e | ⟨b, o, e, hc⟩
  · exact .inl e
  · refine .inr ⟨b, o, e, fun j x hx => ?_⟩
    obtain ⟨h1, h2⟩ := hc j x hx
    exact ⟨(hb.cell (p := ⟨b, o + 2 * j, none⟩) (World.block_lt_of_cell? A _ h1)).trans h1, (hb.cell (p := ⟨b, o + 2 * j + 1, none⟩) (World.block_lt_of_cell? A _ h2)).trans h2⟩
theorem cellsI_at : ∀ (l : List Item) (j : Nat) (x : Item), l[j]? = some x → (cellsI l)[2 * j]? = some (.int .i64 x.1) ∧ (cellsI l)[2 * j + 1]? = some (.bool x.2)
  | [], j, x, h => by simp at h
  | y :: l, 0, x, h => by simp at h; subst h; simp [cellsI]
  | y :: l, j + 1, x, h => by
    have := cellsI_at l j x (by simpa using h)
    have e : cellsI (y :: l) = .int .i64 y.1 :: .bool y.2 :: cellsI l := by simp [cellsI]
    rw [e, show 2 * (j + 1) = 2 * j + 1 + 1 by omega]
    simpa using this
theorem ii_of_row {w : World} {base n : Nat} {a : Option Addr} {k c : Nat} {l : List Item} (h : w.ownsRow base 50 2 (.slice a k c) n (cellsI l)) (hn : n = l.length) : Ii w a l ∧ k = l.length ∧ k ≤ c ∧ c ≤ maxLen := by
  subst hn
  have h' := h
  obtain ⟨-, ⟨e, e2⟩ | ⟨g, cap, cur, e, hb, hg, h1, h2, h3, h4⟩⟩ := h'
  · cases e
    exact ⟨.inl (List.eq_nil_of_length_eq_zero e2), e2.symm, Nat.le_refl _, by unfold maxLen; omega⟩
  · cases e
    refine ⟨.inr ⟨g, 0, rfl, fun j x hx => ?_⟩, rfl, h1, h2⟩
    obtain ⟨c1, c2⟩ := cellsI_at l j x hx
    have d1 := h.cells (g := g) rfl (2 * j) _ c1
    have d2 := h.cells (g := g) rfl (2 * j + 1) _ c2
    rw [add_plain] at d1 d2
    exact ⟨d1, by rw [Nat.add_assoc]; exact d2⟩

theorem it_skip (last : Bool) : ∀ (k : Nat) (l : List Int), itP last k l = itP last 0 (l.drop k) ∧ flP last k l = flP last 0 (l.drop k)
  | 0, l => by simp
  | k + 1, [] => by simp [itP, flP]
  | k + 1, _ :: r => by rw [itP, flP]; exact it_skip last k r
theorem it_other {last : Bool} {t : List Int} {j : Nat} (h : j < t.length) (hc : iAt t j ≠ 92) : itP last 0 (t.drop j) = (iAt t j, false) :: itP last 0 (t.drop (j + 1)) ∧ flP last 0 (t.drop j) = flP last 0 (t.drop (j + 1)) := by
  rw [drop_at h, itP, flP, if_neg hc, if_neg hc]
  exact ⟨rfl, rfl⟩
theorem it_slash {last : Bool} {t : List Int} {j : Nat} (h : j < t.length) (hc : iAt t j = 92) :
    itP last 0 (t.drop j) = ((firstP (t.drop (j + 1)) last).point, true) :: itP last 0 (t.drop (j + 1 + ((firstP (t.drop (j + 1)) last).size - 1))) ∧
    flP last 0 (t.drop j) = if (firstP (t.drop (j + 1)) last).fault = 0 then flP last 0 (t.drop (j + 1 + ((firstP (t.drop (j + 1)) last).size - 1))) else (firstP (t.drop (j + 1)) last).fault := by
  rw [drop_at h, itP, flP, if_pos hc, if_pos hc, (it_skip last _ (t.drop (j + 1))).1, (it_skip last _ (t.drop (j + 1))).2, List.drop_drop]
  exact ⟨rfl, rfl⟩

/-- What items answers. -/
def ItemsPost (w : World) (t : List Int) (last : Bool) (e : Ending) (w' : World) : Prop :=
  Below w.heap.size w w' ∧ ((flP last 0 t ≠ 0 ∧ e = .returned (.tuple #[.slice none 0 0, .bool false, .int .i64 (flP last 0 t : Nat)])) ∨
    (flP last 0 t = 0 ∧ ∃ v on u, e = .returned (.tuple #[v, .bool on, .int .i64 0]) ∧ OwnsI w' w.heap.size v u ∧ itP last 0 t = u ++ (if on then [(-1, true)] else []) ∧ (∀ x ∈ u, keepI x = true) ∧ u.length ≤ t.length))

set_option maxRecDepth 100000 in
set_option maxHeartbeats 2000000 in
theorem items_any (q : Option Addr) (t : List Int) (c : Nat) (last : Bool) (w : World) (hn : t.length ≤ 1000000) (hI : Is w q t) :
    Calls Tryd.prog 21 #[.slice q t.length c, .bool last] w (ItemsPost w t last) := by
  have hn2 : (t.length : Int) ≤ 1000000 := by omega
  have hE0 := fun i W hb => refEsc_any q t c i last W (by omega) (hi := hb)
  obtain ⟨P, hP⟩ : ∃ P, P = ItemsPost w t last := ⟨_, rfl⟩
  have HP : Hid (∀ e w', (Below w.heap.size w w' ∧ ((flP last 0 t ≠ 0 ∧ e = .returned (.tuple #[.slice none 0 0, .bool false, .int .i64 (flP last 0 t : Nat)])) ∨
    (flP last 0 t = 0 ∧ ∃ v on u, e = .returned (.tuple #[v, .bool on, .int .i64 0]) ∧ OwnsI w' w.heap.size v u ∧ itP last 0 t = u ++ (if on then [(-1, true)] else []) ∧ (∀ x ∈ u, keepI x = true) ∧ u.length ≤ t.length))) → P e w') := by
    intro e w' h; rw [hP]; exact h
  rw [← hP]
  clear hP
  go_enter Tryd.func21, Tryd.ntmps21
  go_wp2
  go_loopw [7, 8] (fun ov iv wr => ∃ (k : Nat) (u : List Item), k ≤ t.length ∧ iv = .int .i64 k ∧ OwnsI wr w.heap.size ov u ∧ Below w.heap.size w wr ∧ Hid (itP last 0 t = u ++ itP last 0 (t.drop k) ∧ flP last 0 t = flP last 0 (t.drop k) ∧ ∀ x ∈ u, keepI x = true) ∧ u.length ≤ k) (fun _ iv _ => t.length - (intOf iv).toNat)
  case atStart => exact ⟨0, [], Nat.zero_le _, rfl, World.ownsRow_nil _ _ 50 2, Below.refl _ _, ⟨by simp, by simp, by simp⟩, by simp⟩
  case round =>
    obtain ⟨k, u, hk, rfl, ho, hb, Hs, hul⟩ := hrel
    obtain ⟨va, vk, vq, rfl⟩ := ownsRow_form ho
    by_cases hlt : k < t.length
    · have hli : (k : Int) < t.length := by omega
      obtain ⟨b, o, rfl, hu⟩ := (hI.on hb).at (by omega)
      have c0 := hu k hlt
      by_cases hx : iAt t k = 92
      · obtain ⟨h1, h2⟩ := it_slash (last := last) hlt hx
        rw [hx] at c0
        by_cases hend : k + 1 = t.length
        · have hend' : (k : Int) + 1 = t.length := by omega
          have hd0 : t.drop (k + 1) = [] := List.drop_eq_nil_of_le (by omega)
          rw [hd0] at h1 h2
          cases last with
          | true =>
            have hf : flP true 0 t = 2 := by rw [Hs.out.2.1, h2]; rfl
            clear hu hE0
            go_wp2
            go_ret3
            exact HP.out _ _ ⟨hb, .inl ⟨by rw [hf]; decide, by rw [hf]; rfl⟩⟩
          | false =>
            have hd1 : ∀ m, t.drop (k + 1 + m) = [] := fun m => List.drop_eq_nil_of_le (by omega)
            have hf : flP false 0 t = 0 := by
              rw [Hs.out.2.1, h2, if_pos (show (firstP [] false).fault = 0 from rfl), hd1]; rfl
            have hit : itP false 0 t = u ++ [(-1, true)] := by
              rw [Hs.out.1, h1, hd1]; rfl
            clear hu hE0
            go_wp2
            go_ret3
            exact HP.out _ _ ⟨hb, .inr ⟨hf, _, true, u, rfl, ho, hit, Hs.out.2.2, by omega⟩⟩
        · have hend' : ¬ (k : Int) + 1 = t.length := by omega
          have hend2 : ((k : Int) + 1 == (t.length : Int)) = false := by simpa using hend'
          have ES := hE0 (k + 1) wr (by omega) (hI.on hb)
          have hpe : (firstP (t.drop (k + 1)) last).fault = 0 → (firstP (t.drop (k + 1)) last).point ≠ -1 := fun h e => by
            have := (firstP_end _ last h).1 e
            have h2 := congrArg List.length this
            simp at h2
            omega
          have hz := firstP_size (t.drop (k + 1)) last
          rw [List.length_drop] at hz
          generalize firstP (t.drop (k + 1)) last = E at ES h1 h2 hz hpe
          obtain ⟨sz, pt, ft⟩ := E
          simp only [escT] at ES
          rw [show ((k + 1 : Nat) : Int) = (k : Int) + 1 from rfl] at ES
          dsimp only at h1 h2 hz ES hpe
          by_cases hf : ft = 0
          · subst hf
            obtain ⟨z1, z2, z3⟩ := hz rfl
            have hpt := hpe rfl
            rw [if_pos rfl] at h2
            have HS' : Hid (itP last 0 t = (u ++ [(pt, true)]) ++ itP last 0 (t.drop (k + sz)) ∧ flP last 0 t = flP last 0 (t.drop (k + sz)) ∧ ∀ x ∈ u ++ [(pt, true)], keepI x = true) := by
              have e : k + 1 + (sz - 1) = k + sz := by omega
              rw [e] at h1 h2
              exact ⟨by rw [Hs.out.1, h1]; simp, by rw [Hs.out.2.1, h2], fun x hx => by
                rcases List.mem_append.1 hx with hx | hx
                · exact Hs.out.2.2 x hx
                · simp at hx; subst hx; simp [keepI, hpt]⟩
            have hsz : ((sz - 1 : Nat) : Int) = (sz : Int) - 1 := by omega
            rw [hsz] at ES
            clear hu hE0 h1 h2 Hs hz hpe
            go_wp2_with (first | (go_at_call 30; refine ES.mono ?_; rintro e W3 ⟨rfl, hg3⟩; obtain ⟨g4, cap4, W4, hr4, ho4, hb4⟩ := pushI (ownsRow_mono (w := W3) (base := w.heap.size) (ho.kept hg3 (ne_of_none fun g h e => by cases e)) (Nat.le_refl _)) (Nat.le_trans hb.size hg3.size) (by omega) pt true) | (at_builtin; refine wpList_append_run (u := .slice va vk vq) (y := .slice (some ⟨W3.heap.size, 0, none⟩) 1 1) rfl _ _ 45 rfl rfl rfl hr4 ?_; clear hr4))
            go_roundw
            case rel => exact ⟨k + sz, u ++ [(pt, true)], by omega, by go_num, ho4, (hb.trans ((grown_below hg3).mono hb.size)).trans hb4, HS', by simp; omega⟩
            case measure => simp [intOf]; omega
          · have hf' : ¬ (ft : Int) = 0 := by omega
            have hf2 : ((ft : Int) == 0) = false := by simpa using hf
            rw [if_neg hf] at h2
            have hfl : flP last 0 t = ft := by rw [Hs.out.2.1, h2]
            clear hu hE0 h1 h2 Hs hz hpe
            go_wp2_with (first | (go_at_call 30; refine ES.mono ?_; rintro e W3 ⟨rfl, hg3⟩))
            go_ret3
            exact HP.out _ _ ⟨hb.trans ((grown_below hg3).mono hb.size), .inl ⟨by rw [hfl]; exact hf, by rw [hfl]; rfl⟩⟩
      · have hx' : (iAt t k == 92) = false := by simpa using hx
        obtain ⟨h1, h2⟩ := it_other (last := last) hlt hx
        have HS' : Hid (itP last 0 t = (u ++ [(iAt t k, false)]) ++ itP last 0 (t.drop (k + 1)) ∧ flP last 0 t = flP last 0 (t.drop (k + 1)) ∧ ∀ x ∈ u ++ [(iAt t k, false)], keepI x = true) := ⟨by rw [Hs.out.1, h1]; simp, by rw [Hs.out.2.1, h2], fun x hx => by
          rcases List.mem_append.1 hx with hx | hx
          · exact Hs.out.2.2 x hx
          · simp at hx; subst hx; rfl⟩
        generalize iAt t k = x at c0 hx hx' HS'
        obtain ⟨g4, cap4, W4, hr4, ho4, hb4⟩ := pushI ho hb.size (by omega) x false
        clear hu hE0 h1 h2 Hs
        go_wp2_with (first | (at_builtin; refine wpList_append_run (u := .slice va vk vq) (y := .slice (some ⟨wr.heap.size, 0, none⟩) 1 1) rfl _ _ 45 rfl rfl rfl hr4 ?_; clear hr4))
        go_roundw
        case rel => exact ⟨k + 1, u ++ [(x, false)], by omega, by go_num, ho4, hb.trans hb4, HS', by simp; omega⟩
        case measure => simp [intOf]; omega
    · obtain rfl : k = t.length := by omega
      have hd0 : t.drop t.length = [] := List.drop_length
      have hf : flP last 0 t = 0 := by rw [Hs.out.2.1, hd0]; rfl
      have hit : itP last 0 t = u ++ [] := by rw [Hs.out.1, hd0]; rfl
      go_wp2
      go_ret3
      exact HP.out _ _ ⟨hb, .inr ⟨hf, _, false, u, rfl, ho, hit, Hs.out.2.2, hul⟩⟩
end Go.Proofs.YtpiefdpcinjkpaaDoor
