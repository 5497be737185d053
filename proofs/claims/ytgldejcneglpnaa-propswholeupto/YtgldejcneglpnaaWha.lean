/- PropsWhole's walk. -/
import Derived.Test.YtgldejcneglpnaaWhp
import Derived.Test.YtgldejcneglpnaaVed
import Derived.Test.YtgldejcneglpnaaVal
set_option linter.unusedVariables false
set_option linter.unusedSimpArgs false
namespace Go.Proofs.Ytgldejcneglpnaa
open Go.RowKit Go.Shelf

/-- A slice of the call's own that holds these ints. -/
abbrev Owns (w : World) (base : Nat) (v : Value) (t : List Int) : Prop := w.ownsRow base 3 1 v t.length (t.map (.int .i64))

theorem owns_cells {w : World} {base : Nat} {v : Value} {t : List Int} (h : Owns w base v t) {g : Nat} (hg : v.ownBlock = some g) : base ≤ g ∧ ∃ cur, w.heap[g]? = some (.cells cur 3 (0, 0)) := by
  rcases h.2 with ⟨rfl, -⟩ | ⟨g', cap, cur, rfl, hb, hh, -⟩
  · cases hg
  · cases hg; exact ⟨hb, cur, hh⟩

theorem Owns.read {w : World} {base : Nat} {v : Value} {t : List Int} (h : Owns w base v t) : ∃ q c, v = .slice q t.length c ∧ Is w q t := by
  obtain ⟨q, k, c, rfl⟩ := ownsRow_form h
  obtain ⟨h1, rfl, -, -⟩ := is_of_row h
  exact ⟨q, c, rfl, h1⟩
theorem pushL {w : World} {base : Nat} {v : Value} {xs u : List Int} {q : Option Addr} (c : Nat) (h : Owns w base v xs) (hb : base ≤ w.heap.size) (hn : xs.length + u.length ≤ 8796093022208) (hI : Is w q u) :
    ∃ v' w1, (Builtin.append_ #[22, 22] 22 #[v, .slice q u.length c]).run Try.prog w = .ok v' w1 ∧ Owns w1 base v' (xs ++ u) ∧ w.grownBy w1 v.ownBlock := by
  obtain ⟨i0, hi, hz0, hz1, hz2⟩ := info_parts Try.info3
  cases q with
  | none =>
    have e : u = [] := by
      rcases hI with e | ⟨b, o, e, -⟩
      · exact e
      · cases e
    subst e
    refine ⟨v, w, ?_, by rw [List.append_nil]; exact h, ⟨rfl, rfl, rfl, Nat.le_refl _, fun _ _ _ => rfl⟩⟩
    rcases h.2 with ⟨rfl, -⟩ | ⟨g, cap, cur, rfl, -, hg, hle, -⟩
    · simp [Builtin.append_, run_underlying Try.underlying22, sizeOf, typeInfo, hi, Builtin.lenOf, Builtin.firstCells, loadCells, loadCellsFrom]
    · simp [Builtin.append_, run_underlying Try.underlying22, sizeOf, typeInfo, hi, Builtin.lenOf, Builtin.firstCells, loadCells, loadCellsFrom, hle, storeCells]
  | some a =>
    have hnews : ∀ j z, (u.map (Value.int .i64))[j]? = some z → w.cell? (a.add j) = some z := by
      intro j z hz
      rw [List.getElem?_map] at hz
      cases hj : u[j]? with
      | none => rw [hj] at hz; cases hz
      | some y =>
        rw [hj] at hz
        have hjl : j < u.length := (List.getElem?_eq_some_iff.1 hj).1
        obtain ⟨b, o, e, hc⟩ := hI.at (by omega)
        cases e
        rw [add_plain, hc j hjl]
        simp [iAt, hj] at hz ⊢
        exact hz
    obtain ⟨v', w', hr, ho, hg, -⟩ := run_append_own (P := Try.prog) w base 22 22 3 i0 (.int .i64 0) 1 8 Try.underlying22 hi hz0 hz1 hz2 rfl (by decide) v xs.length (xs.map (.int .i64)) h
      a u.length c (u.map (.int .i64)) (by simp) hnews (by simp [Value.oneCell']) (by unfold maxLen; omega) (by omega) hb
    refine ⟨v', w', hr, ?_, hg⟩
    unfold Owns
    rw [List.map_append, List.length_append]
    exact ho

theorem owns_below {w w1 : World} {base : Nat} {v : Value} {xs : List Int} (h : Owns w base v xs) (hg : w.grownBy w1 v.ownBlock) {n₀ : Nat} (hn : n₀ ≤ base) (hb : base ≤ w.heap.size) : Below n₀ w w1 :=
  (Below.refl n₀ w).grown hg (by omega) (fun k e => Nat.le_trans hn (owns_cells h e).1)


/-- A list, and another one behind it. -/
theorem app_is {w0 w : World} {v : Value} {A l : List Int} {q : Option Addr} (c : Nat) (ho : Owns w w0.heap.size v A) (hB : Below w0.heap.size w0 w) (hI : Is w q l) (hn : A.length + l.length ≤ 1000) :
    ∃ a k c' w1, (Builtin.append_ #[22, 22] 22 #[v, .slice q l.length c]).run Try.prog w = .ok (.slice a k c') w1 ∧ Owns w1 w0.heap.size (.slice a k c') (A ++ l) ∧ Below w0.heap.size w0 w1 := by
  obtain ⟨v', w1, h1, h2, h3⟩ := pushL c ho hB.size (by omega) hI
  obtain ⟨a, k, c', rfl⟩ := ownsRow_form h2
  exact ⟨a, k, c', w1, h1, h2, hB.trans (owns_below ho h3 (Nat.le_refl _) hB.size)⟩
/-- A list of numbers that is written out. -/
theorem lit2 (w : World) (x y : Int) : Owns (w.alloc (.cells #[.int .i64 x, .int .i64 y] 3)) w.heap.size (.slice (some ⟨w.heap.size, 0, none⟩) 2 2) [x, y] :=
  World.ownsRow_lit (base := w.heap.size) (e := 3) (size := 1) w #[.int .i64 x, .int .i64 y] 2 (Nat.le_refl _) (by unfold maxLen; omega) rfl
theorem lit3 (w : World) (x y z : Int) : Owns (w.alloc (.cells #[.int .i64 x, .int .i64 y, .int .i64 z] 3)) w.heap.size (.slice (some ⟨w.heap.size, 0, none⟩) 3 3) [x, y, z] :=
  World.ownsRow_lit (base := w.heap.size) (e := 3) (size := 1) w #[.int .i64 x, .int .i64 y, .int .i64 z] 3 (Nat.le_refl _) (by unfold maxLen; omega) rfl
theorem is1 (w : World) (x : Int) : Is (w.alloc (.cells #[.int .i64 x] 3)) (some ⟨w.heap.size, 0, none⟩) [x] := is_of_block (f := (0, 0)) (World.alloc_heap_new w _)
theorem is2 (w : World) (x y : Int) : Is (w.alloc (.cells #[.int .i64 x, .int .i64 y] 3)) (some ⟨w.heap.size, 0, none⟩) [x, y] := is_of_block (f := (0, 0)) (World.alloc_heap_new w _)
theorem is3 (w : World) (x y z : Int) : Is (w.alloc (.cells #[.int .i64 x, .int .i64 y, .int .i64 z] 3)) (some ⟨w.heap.size, 0, none⟩) [x, y, z] := is_of_block (f := (0, 0)) (World.alloc_heap_new w _)

/-- What Tag tells of a list of the call's own. -/
theorem tag_own {w0 w : World} {a : Option Addr} {k c : Nat} {t s : List Int} {n : Nat} (ho : Owns w w0.heap.size (.slice a k c) t) (hB : Below w0.heap.size w0 w) (hn : t.length ≤ 1000) (ht : tagP t = some (s, n)) :
    Calls Try.prog 11 #[.slice a k c] w fun e w' => e = .returned (.tuple #[.string (txt s), .int .i64 n, .bool true]) ∧ Below w0.heap.size w0 w' := by
  obtain ⟨hI, hk, hkc, hcm⟩ := is_of_row ho
  have h := Tag_any a t k c w hk (by omega) (by omega) hcm hI
  rw [ht, tagV_some] at h
  refine h.mono ?_
  rintro e w' ⟨rfl, hb⟩
  exact ⟨rfl, hB.trans (hb.mono hB.size)⟩
/-- A text of ASCII with some signs ahead of it. -/
theorem txt_head (hd : List UInt8) (s S : ByteArray) (h1 : ∀ b ∈ hd, b.toNat < 128) (h2 : ∀ b ∈ s.data.toList, b.toNat < 128) (hS : S.data.toList = hd ++ s.data.toList) (t : List Int) (ht : t = zs hd ++ zs s.data.toList) : txt t = S := by
  rw [ht, ← zs_app, txt_ascii _ (fun b hb => by rcases List.mem_append.1 hb with h | h; exact h1 b h; exact h2 b h), ← hS]
theorem text_own (s : ByteArray) (hs : s.size ≤ 1000) (ha : ∀ b ∈ s.data.toList, b.toNat < 128) (w : World) :
    Calls Try.prog 17 #[.string s] w fun e w' => ∃ a c ok, e = .returned (.tuple #[.slice a s.size c, .bool ok]) ∧ Below w.heap.size w w' ∧ Is w' a (zs s.data.toList) := by
  refine (Text_any s w (by omega)).mono ?_
  rintro e w' ⟨v, rfl, ho, hb⟩
  obtain ⟨a, k, c, rfl⟩ := ownsRow_form ho
  obtain ⟨hI, hk, hkc, hcm⟩ := is_of_row ho
  obtain ⟨h1, h2⟩ := pts_ascii (l := s.data.toList) (fun j hj => by
    have := ha (s.data.toList[j]) (List.getElem_mem hj)
    unfold bt
    rw [List.getElem?_eq_getElem hj]
    exact this)
  rw [h2] at hI hk
  rw [zs_len] at hk
  have hk2 : k = s.size := by rw [hk]; simp
  subst hk2
  exact ⟨a, c, _, rfl, hb, hI⟩
end Go.Proofs.Ytgldejcneglpnaa
