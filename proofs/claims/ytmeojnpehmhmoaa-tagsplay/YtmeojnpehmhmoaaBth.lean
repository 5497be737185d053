/- Both make the same whole. -/
import Derived.Test.YtmeojnpehmhmoaaRwh
import Derived.Lib.IndexLaws
set_option linter.all false
set_option maxRecDepth 100000
namespace Go.Proofs.Ytmeojnpehmhmoaa
open Go.RowKit Go.Shelf Go.Lib

theorem look_mem {D : List Mn} {h q : ByteArray} (e : look D h = some q) : ∃ x ∈ D, x.2 = q := by
  unfold look at e
  obtain ⟨x, hx, rfl⟩ := Option.map_eq_some_iff.1 e
  exact ⟨x, List.mem_of_find?_eq_some hx, rfl⟩
theorem pre_size {D : List Mn} (hq : ∀ x ∈ D, x.2.size ≤ 1000000000000000) {h q : ByteArray} (e : preP h (look D h) = some q) : q.size ≤ 1000000000000000 := by
  unfold preP at e
  cases ho : look D h with
  | some p =>
    rw [ho] at e
    cases e
    obtain ⟨x, hx, rfl⟩ := look_mem ho
    exact hq x hx
  | none =>
    rw [ho] at e
    dsimp only at e
    split at e
    · cases e; decide
    · split at e
      · cases e; decide
      · cases e
theorem byte_at {s : ByteArray} {c : UInt8} {W : List UInt8} (hd : s.data.toList = c :: W) (j : Nat) (hj : j + 1 < s.size) : W[j]? = some (s[j + 1]'hj) := by
  have h1 : s.data.toList[j + 1]? = some (s[j + 1]'hj) := by
    rw [Array.getElem?_toList]
    exact Array.getElem?_eq_getElem hj
  rw [hd] at h1
  simpa using h1
theorem wr_first {s : ByteArray} (h : Wr s) : ∃ W, s.data.toList = 33 :: W := by
  obtain ⟨-, n, h⟩ := h
  cases hd : s.data.toList with
  | nil => rw [hd] at h; cases h
  | cons c W =>
    rw [hd] at h
    unfold tagP at h
    by_cases h0 : (zs (c :: W)).length = 0 ∨ iAt (zs (c :: W)) 0 ≠ 33
    · rw [if_pos h0] at h; cases h
    · have e : iAt (zs (c :: W)) 0 = 33 := by
        apply Classical.byContradiction
        intro hc
        exact h0 (.inr hc)
      have e2 : (c.toNat : Int) = 33 := e
      have : c = 33 := UInt8.toNat_inj.1 (by show c.toNat = 33; omega)
      exact ⟨W, by rw [this]⟩
/-- One answer, and both give it. -/
def Agree (D : List Mn) (s : ByteArray) (r : ByteArray × Int) : Prop :=
  (∀ p w, TelS p (look D) w → Calls Try.prog 8 #[.pointer p, .string s] w fun e w' => e = .returned (whoV r) ∧ Below w.heap.size w w') ∧
  (∀ b base v w, Boxed w b 31 v → OwnH w base v D → Calls Try.prog 9 #[.pointer (some ⟨b, 0, none⟩), .string s] w fun e w' => e = .returned (whoV r) ∧ Below w.heap.size w w')
theorem whole_both (D : List Mn) (s : ByteArray) (hs : s.size ≤ 100000) (hD : D.length ≤ 50) (hq : ∀ x ∈ D, x.2.size ≤ 1000000000000000) : ∃ r, Agree D s r := by
  by_cases hn : s.toList = [] ∨ s.toList = [33]
  · exact ⟨(s, 0), fun p w _ => (Whole_none p s w hn).mono fun e w' ⟨h1, h2⟩ => ⟨h1, h2 ▸ Below.refl _ _⟩, fun b base v w _ _ => (rWhole_none _ s w hn).mono fun e w' ⟨h1, h2⟩ => ⟨h1, h2 ▸ Below.refl _ _⟩⟩
  have hne1 : s.toList ≠ [] := fun h => hn (.inl h)
  have hne2 : s.toList ≠ [33] := fun h => hn (.inr h)
  have h1 : s.toList.isEmpty = false := by
    cases h : s.toList with
    | nil => exact absurd h hne1
    | cons a b => rfl
  have h2 : (s.toList == [33]) = false := by simpa using hne2
  rw [tlD] at hne1
  cases hd : s.data.toList with
  | nil => exact absurd hd hne1
  | cons c W =>
    obtain ⟨h0, hb0⟩ := byte0 hd
    by_cases hc : c.toNat = 60
    · have hc60 : c = 60 := UInt8.toNat_inj.1 (by show c.toNat = 60; omega)
      subst hc60
      have h3 : (s[0]'h0).toNat = 60 := by rw [hb0]; rfl
      cases hv : validB (s.extract 1 s.size) with
      | true =>
        refine ⟨(s.extract 1 s.size, 0), fun p w _ => Whole_angle p s w h1 h2 h0 h3 (by omega) hv, fun b base v w _ _ => ?_⟩
        have TD := rtold_lt s W w hs hd
        rw [hv] at TD
        exact rWhole_angle _ s w h1 h2 h0 h3 TD
      | false =>
        have hw : wrtB s = false := by
          rw [← Bool.not_eq_true, wrt_iff]
          intro h
          obtain ⟨W', e⟩ := wr_first h
          rw [hd] at e
          injection e with e
          revert e
          decide
        refine ⟨(⟨#[]⟩, 11), fun p w _ => Whole_angleNot p s w h1 h2 h0 h3 (by omega) hv hw, fun b base v w _ _ => ?_⟩
        have TD := rtold_lt s W w hs hd
        rw [hv] at TD
        exact rWhole_not _ s w h1 h2 TD
    · have h3 : ((((s[0]'h0).toNat : Nat) : Int) == 60) = false := by
        rw [hb0, beq_eq_false_iff_ne]
        intro e
        exact hc (by omega)
      have TD0 := fun w => rtold_ne s c W w hs hd hc
      cases hw : wrtB s with
      | false =>
        refine ⟨(⟨#[]⟩, 11), fun p w _ => Whole_not p s w h1 h2 h0 h3 (by omega) hw, fun b base v w _ _ => ?_⟩
        have TD := TD0 w
        rw [hw] at TD
        exact rWhole_not _ s w h1 h2 TD
      | true =>
        rw [hw] at TD0
        obtain ⟨W', e⟩ := wr_first ((wrt_iff s).1 hw)
        rw [hd] at e
        injection e with e1 e2
        subst e1
        subst e2
        have hsz : s.size = W.length + 1 := by rw [sizeD, hd]; simp
        have hex : (s.extract 1 s.size).data.toList = W := by rw [exD, hd]; rfl
        have hge := Lib.indexByte_ge W 33
        by_cases hx : Lib.indexByte W 33 = -1
        · have hno : ∀ j (hj : j < s.size), 1 ≤ j → s[j] ≠ 33 := by
            intro j hj hj1 e
            obtain ⟨i, rfl⟩ : ∃ i, j = i + 1 := ⟨j - 1, by omega⟩
            have := byte_at hd i hj
            rw [e] at this
            exact Lib.indexByte_none hx i this
          have hk : hszP s = (1 : Nat) := by unfold hszP; rw [hex, hx]; rfl
          have hxl : Lib.indexByte (s.extract 1 s.size).data.toList 33 ≤ 1000000 := by rw [hex, hx]; omega
          have eh : s.extract 0 1 = ⟨#[33]⟩ := ba_eq (by rw [exT, hd]; rfl)
          refine ⟨fndR (preP ⟨#[33]⟩ (look D ⟨#[33]⟩)) (s.extract 1 s.size), fun p w hT => ?_, fun b base v w hb hO => rWhole_one b base v D s _ w h1 h2 h0 h3 (by omega) hno hb hO hD rfl (fun q e => pre_size hq e) (TD0 w)⟩
          cases ho : preP ⟨#[33]⟩ (look D ⟨#[33]⟩) with
          | none => exact Whole_unknown p s (look D) w h1 h2 h0 h3 (by omega) hw 1 hk (by omega) hxl hT (by rw [eh]; exact ho)
          | some q => exact Whole_known p s q (look D) w h1 h2 h0 h3 (by omega) hw 1 hk (by omega) hxl hT (by rw [eh]; exact ho) (pre_size hq ho)
        · obtain ⟨i, hi⟩ : ∃ i : Nat, Lib.indexByte W 33 = i := ⟨(Lib.indexByte W 33).toNat, by omega⟩
          obtain ⟨ha, hb'⟩ := Lib.indexByte_some hi
          have hiW : i < W.length := (List.getElem?_eq_some_iff.1 ha).1
          have hat : s[i + 1]'(by omega) = 33 := by
            have := byte_at hd i (by omega)
            rw [ha] at this
            injection this with this
            exact this.symm
          have hno : ∀ j (hj : j < s.size), 1 ≤ j → j < i + 1 → s[j] ≠ 33 := by
            intro j hj hj1 hj2 e
            obtain ⟨m, rfl⟩ : ∃ m, j = m + 1 := ⟨j - 1, by omega⟩
            have := byte_at hd m hj
            rw [e] at this
            exact hb' m (by omega) this
          have hk : hszP s = (i + 1 + 1 : Nat) := by
            unfold hszP
            rw [hex, hi, if_pos (by omega)]
            omega
          have hxl : Lib.indexByte (s.extract 1 s.size).data.toList 33 ≤ 1000000 := by rw [hex, hi]; omega
          refine ⟨fndR (preP (s.extract 0 (i + 1 + 1)) (look D (s.extract 0 (i + 1 + 1)))) (s.extract (i + 1 + 1) s.size), fun p w hT => ?_, fun b base v w hb hO => rWhole_two b base v D s (i + 1) _ w h1 h2 h0 h3 (by omega) (by omega) (by omega) hat hno hb hO hD rfl (fun q e => pre_size hq e) (TD0 w)⟩
          cases ho : preP (s.extract 0 (i + 1 + 1)) (look D (s.extract 0 (i + 1 + 1))) with
          | none => exact Whole_unknown p s (look D) w h1 h2 h0 h3 (by omega) hw (i + 1 + 1) hk (by omega) hxl hT ho
          | some q => exact Whole_known p s q (look D) w h1 h2 h0 h3 (by omega) hw (i + 1 + 1) hk (by omega) hxl hT ho (pre_size hq ho)
end Go.Proofs.Ytmeojnpehmhmoaa
