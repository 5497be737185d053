/- For all slices of ints a and b and every number which, where what comes in is of bulk at most 1048576: LinesParts answers true: texts one behind the other, with a line's end between, are the lines of both. The one condition: that bulk. -/
import Derived.Test.YtcijjbnkdjmklaaParts0
import Derived.Test.YtcijjbnkdjmklaaParts1a
import Derived.Test.YtcijjbnkdjmklaaParts1b
import Derived.Test.YtcijjbnkdjmklaaParts2
import Derived.Test.YtcijjbnkdjmklaaPartsF
import Derived.Test.YtcijjbnkdjmklaaPartsM
import Derived.JoinedCond
set_option linter.unusedVariables false
set_option linter.unusedSimpArgs false
namespace Go.Proofs.Ytcijjbnkdjmklaa.linesParts
open Go.ChangeShapes Go.WideShapes Go.ChangeAt Go.RowKit Go.Shelf

/-- Ints count one each. -/
theorem ints_bulk {H : Type} (k : IntKind) (l : List Int) : Rows.uptoBulkAll (lits (H := H) k l) = l.length := by
  unfold lits
  induction l with
  | nil => rfl
  | cons x t ih => rw [List.map_cons, Rows.uptoBulkAll, ih, Rows.uptoBulk, List.length_cons, Nat.add_comm] <;> simp

/-- A slice of ints is no longer than what is read of it is bulky. -/
theorem row_len {H : Type} {enc : TypeId × Value → H} {W : World} {t e : TypeId} {k : IntKind} {a : Option Addr} {len cap : Nat} {d : DataW H} {p : List MemPlace} (ht : Try.prog.underlying t = some (.slice e)) (he : Try.prog.underlying e = some (.int k)) (hc : Try.prog.cellsOf e = 1)
    (h : DataW.Trod enc Try.prog W 0 (fun _ => true) true t (.slice a len cap) d p) : len ≤ Rows.uptoBulk d := by
  obtain ⟨fuel, hf⟩ := h
  rcases open_ints ht he hc hf with ⟨hcs, _⟩ | ⟨x, l, c, zs, hcs, _, hl, hm, hz, hd, _, _⟩
  · simp [Value.cells] at hcs
    obtain ⟨rfl, rfl, rfl⟩ := hcs
    exact Nat.zero_le _
  · simp [Value.cells] at hcs
    obtain ⟨rfl, rfl, rfl⟩ := hcs
    have e1 := congrArg Prod.fst hd
    simp only at e1
    subst e1
    simp only [if_true] at hz
    simp only [Rows.uptoBulk, ints_bulk, List.length_take]
    omega

theorem endP_of {x : Int} (h : (x == 10) = false ∧ (x == 13) = false) : endP x = false := by
  unfold endP
  simp at h ⊢
  exact h

theorem reads {a e b : List Int} (ha : 0 < a.length) (hl : endP (iAt a (a.length - 1)) = false) (he : IsEnd e b) (h1 : a.any badP = false) (h2 : b.any badP = false) (hna : a.length ≤ 300) (hnb : b.length ≤ 300) (hne : e.length ≤ 2) :
    ∀ s c w2, (a ++ e ++ b).length ≤ c → c ≤ maxLen → Is w2 s (a ++ e ++ b) → Calls Try.prog 8 #[.slice s (a ++ e ++ b).length c] w2 fun e w' => ∃ v, e = .returned (.tuple #[v, .int .i64 0]) ∧ Below w2.heap.size w2 w' ∧ Rws w' w2.heap.size v (linesP a ++ linesP b) := by
  intro s c w2 k1 k2 k3
  have := Read_any s (a ++ e ++ b) c w2 k1 k2 (by simp only [List.length_append]; omega) k3
  rw [good_parts h1 h2 he, lines_parts (by intro e; rw [e] at ha; simp at ha) hl he] at this
  exact this

theorem walk (p : Option Addr) (a : List Int) (c1 : Nat) (q : Option Addr) (b : List Int) (c2 : Nat) (which : Int) (w : World) (ha1 : a.length ≤ c1) (ha2 : c1 ≤ maxLen) (hb1 : b.length ≤ c2) (hb2 : c2 ≤ maxLen) (na : a.length ≤ 1048576) (nb : b.length ≤ 1048576) (h1 : Is w p a) (h2 : Is w q b) :
    Calls Try.prog 5 #[.slice p a.length c1, .slice q b.length c2, .int .i64 which] w fun e w' => e = .returned (.bool true) ∧ Below w.heap.size w w' := by
  have F1 := fun w2 h => reflines_any p a c1 w2 ha1 ha2 (by omega) h
  have F2 := fun w2 h => reflines_any q b c2 w2 hb1 hb2 (by omega) h
  by_cases g0 : 300 < (a.length : Int)
  · exact parts_far p q a b c1 c2 which _ _ _ _ w h1 h2 F1 F2 (.inl g0)
  by_cases g1 : 300 < (b.length : Int)
  · exact parts_far p q a b c1 c2 which _ _ _ _ w h1 h2 F1 F2 (.inr (.inl ⟨g0, g1⟩))
  cases g2 : a.any badP with
  | true =>
    rw [g2] at F1
    exact parts_far p q a b c1 c2 which _ _ _ _ w h1 h2 F1 F2 (.inr (.inr (.inl ⟨g0, g1, rfl⟩)))
  | false =>
    cases g3 : b.any badP with
    | true =>
      rw [g2] at F1
      rw [g3] at F2
      exact parts_far p q a b c1 c2 which _ _ _ _ w h1 h2 F1 F2 (.inr (.inr (.inr (.inl ⟨g0, g1, rfl, rfl⟩))))
    | false =>
      rw [g2] at F1
      rw [g3] at F2
      by_cases g4 : which < 0
      · exact parts_far p q a b c1 c2 which _ _ _ _ w h1 h2 F1 F2 (.inr (.inr (.inr (.inr (.inl ⟨g0, g1, rfl, rfl, g4⟩)))))
      by_cases g5 : 2 < which
      · exact parts_far p q a b c1 c2 which _ _ _ _ w h1 h2 F1 F2 (.inr (.inr (.inr (.inr (.inr ⟨g0, g1, rfl, rfl, g4, g5⟩)))))
      have t1 : decide (300 < (a.length : Int)) = false := decide_eq_false g0
      have t2 : decide (300 < (b.length : Int)) = false := decide_eq_false g1
      have na3 : a.length ≤ 300 := by omega
      have nb3 : b.length ≤ 300 := by omega
      by_cases hz : a.length = 0
      · exact parts_m1 p q a b c1 c2 which _ _ w h1 h2 F1 F2 na3 nb3 t1 t2 g4 g5 (by rw [hz]; rfl)
      have t3 : ((a.length : Int) == 0) = false := beq_false_of_ne (by omega)
      have hn : 0 < a.length := by omega
      by_cases x10 : iAt a (a.length - 1) = 10
      · exact parts_m2 p q a b c1 c2 which _ _ w h1 h2 F1 F2 na3 nb3 t1 t2 g4 g5 t3 hn x10
      by_cases x13 : iAt a (a.length - 1) = 13
      · exact parts_m3 p q a b c1 c2 which _ _ w h1 h2 F1 F2 na3 nb3 t1 t2 g4 g5 t3 hn x13
      have e10 : (iAt a (a.length - 1) == 10) = false := beq_false_of_ne x10
      have e13 : (iAt a (a.length - 1) == 13) = false := beq_false_of_ne x13
      have hend := endP_of ⟨e10, e13⟩
      have hw : which = 0 ∨ which = 1 ∨ which = 2 := by omega
      rcases hw with rfl | rfl | rfl
      · exact parts0 p q a b c1 c2 w h1 h2 F1 F2 (reads hn hend (.inl rfl) g2 g3 na3 nb3 (by simp)) na3 nb3 t1 t2 t3 hn _ rfl e10 e13
      · by_cases hb0 : 0 < b.length
        · obtain ⟨qb, qo, rfl, -⟩ := h2.at hb0
          have tb : decide (0 < (b.length : Int)) = true := decide_eq_true (by omega)
          by_cases y10 : iAt b 0 = 10
          · exact parts_m4 p qb qo a b c1 c2 _ _ w h1 h2 F1 F2 na3 nb3 t1 t2 t3 hn _ rfl e10 e13 tb hb0 y10
          · exact parts1b p qb qo a b c1 c2 w h1 h2 F1 F2 (reads hn hend (.inr (.inl ⟨rfl, y10⟩)) g2 g3 na3 nb3 (by simp)) na3 nb3 t1 t2 t3 hn _ rfl e10 e13 tb hb0 _ rfl (beq_false_of_ne y10)
        · have tb : decide (0 < (b.length : Int)) = false := decide_eq_false (by omega)
          have y10 : iAt b 0 ≠ 10 := by
            have : b = [] := List.eq_nil_of_length_eq_zero (by omega)
            rw [this]
            simp [iAt]
          exact parts1a p q a b c1 c2 w h1 h2 F1 F2 (reads hn hend (.inr (.inl ⟨rfl, y10⟩)) g2 g3 na3 nb3 (by simp)) na3 nb3 t1 t2 t3 hn _ rfl e10 e13 tb (by omega) hb0
      · exact parts2 p q a b c1 c2 w h1 h2 F1 F2 (reads hn hend (.inr (.inr rfl)) g2 g3 na3 nb3 (by simp)) na3 nb3 t1 t2 t3 hn _ rfl e10 e13

theorem contract (H : Type) (enc : TypeId × Value → H) (W : World) (base : Nat) (args : Array Value) (ds gs : List (DataW H)) (before : List MemPlace)
    (hval0 : ∀ (j : Nat) t v, Try.f5.params[j]? = some t → args[j]? = some v → Value.okWide Try.prog W .any base t v)
    (hW : DataW.Whole enc Try.prog Try.f5.params.toList Rows.linesPartsSpec.vars false W args.toList ds gs before) (hk : Rows.uptoSmall H (ds ++ gs) = true) :
    Calls Try.prog 5 args W fun e W' => ∃ v, e = .returned v ∧ Rows.linesPartsSpec.post enc Try.prog Try.f5 false true false false W args v W' := by
  have hval := hval0
  have hW' := hW
  obtain ⟨p, q, hA0, hV, rfl, hfz, hnd⟩ := hW
  have hA : DataW.TrodAll enc Try.prog W 0 (fun _ => true) true Try.f5.params.toList args.toList ds p := hA0
  rw [Try.params5] at hA hval
  obtain ⟨v0, vs0, d0, ds0, p0, q0, hargs0, rfl, rfl, h0, r0⟩ := trodAll_cons hA
  obtain ⟨v1, vs1, d1, ds1, p1, q1, hargs1, rfl, rfl, h1, r1⟩ := trodAll_cons r0
  obtain ⟨v2, vs2, d2, ds2, p2, q2, hargs2, rfl, rfl, h2, r2⟩ := trodAll_cons r1
  obtain ⟨rfl, rfl, rfl⟩ := trodAll_nil r2
  obtain rfl : args = #[v0, v1, v2] := by cases args; simp_all
  obtain ⟨rfl, rfl⟩ := trodVars_none hV
  obtain ⟨a0, len0, cap0, rfl⟩ := okWide_slice Try.underlying22 (hval 0 22 v0 rfl rfl)
  obtain ⟨a1, len1, cap1, rfl⟩ := okWide_slice Try.underlying22 (hval 1 22 v1 rfl rfl)
  obtain ⟨a2, rfl, rfl, rfl, w2⟩ := open_int Try.underlying3 (hval 2 3 v2 rfl rfl) h2
  have k0 := h0
  have k1 := h1
  have lt0 : ∀ x ∈ p0, x.block < W.heap.size := by obtain ⟨m, hm⟩ := k0; exact DataW.trod_lt m _ _ _ hm
  have lt1 : ∀ x ∈ p1, x.block < W.heap.size := by obtain ⟨m, hm⟩ := k1; exact DataW.trod_lt m _ _ _ hm
  have n0 := row_len Try.underlying22 Try.underlying3 (by kernel_rfl) h0
  have n1 := row_len Try.underlying22 Try.underlying3 (by kernel_rfl) h1
  have hb := of_decide_eq_true hk
  simp only [List.cons_append, List.nil_append, List.append_nil, Rows.uptoBulkAll] at hb
  obtain ⟨z0, w0⟩ := row_open Try.underlying22 Try.underlying3 (by kernel_rfl) h0
  obtain ⟨z1, w1⟩ := row_open Try.underlying22 Try.underlying3 (by kernel_rfl) h1
  obtain ⟨l0, rfl, hl0, hc0, hI0, -, -⟩ := row_ints w0
  obtain ⟨l1, rfl, hl1, hc1, hI1, -, -⟩ := row_ints w1
  clear hA0 hval0
  refine (walk a0 l0 cap0 a1 l1 cap1 a2 W hl0 hc0 hl1 hc1 (by omega) (by omega) hI0 hI1).mono fun e W' ⟨he, bel⟩ => ?_
  subst he
  exact ⟨_, rfl, _, _, _, [], _, [], hW', trodAll_mk1 (shut_bool Try.underlying4 _), (trodAll_cons_mk (Below.trod laidOut (by kernel_rfl) (of_decide_eq_true (by kernel_rfl)) k0 bel lt0) (trodAll_cons_mk (Below.trod laidOut (by kernel_rfl) (of_decide_eq_true (by kernel_rfl)) k1 bel lt1) (trodAll_cons_mk (shut_int Try.underlying3 w2) trodAll_mk0))), rfl, bel.frame _, fun h => by cases h⟩

set_option maxRecDepth 100000 in
theorem lifted (os : Os) (started : os.Started) (H : Type) (enc : TypeId × Value → H) (F : Stop.Interp) :
    ReturnsInHanded {} Try.checked os 5 .any ((Rows.OpenSpec.upto Rows.linesPartsSpec).pre6 enc Try.prog Try.f5 Rows.linesPartsUptoRow.domain false) (((Rows.OpenSpec.upto Rows.linesPartsSpec).at F).post enc Try.prog Try.f5 false true false false) := by
  refine returnsInHanded_of_cond (C := Try.checked) (s := Rows.OpenSpec.upto Rows.linesPartsSpec) (k := Rows.uptoSmall) rfl own started (by kernel_rfl) Try.func5
    (OpenSpec.witness (enc := enc) (C := Try.checked) (s := Rows.OpenSpec.upto Rows.linesPartsSpec) (k := Rows.uptoSmall) rfl false ⟨#[], #[.slice none 0 0, .slice none 0 0, .int .i64 0], []⟩ 8 (by kernel_rfl) (by kernel_rfl) (by kernel_rfl)
      (x := ([.nil, .nil, .lit (.int .i64 0)], [], [])) (by kernel_rfl) rfl (by kernel_rfl)) ?_
  intro W base args ds gs before hval hW _ hk _
  exact contract H enc W base args ds gs before hval hW hk

theorem over : Rows.linesPartsUptoRow.holds Try.pinned (Rows.OpenSpec.upto Rows.linesPartsSpec) :=
  OpenClaim.holds_of_cond 5 Try.f5 rfl rfl rfl rfl rfl rfl rfl ⟨rfl, rfl, rfl, rfl, rfl⟩ rfl rfl rfl rfl rfl (by kernel_rfl) Try.func5 (by kernel_rfl)
    (of_decide_eq_true (by kernel_rfl)) (by unfold Func.isWrapper; first | (rw [if_pos (by decide +kernel)]; kernel_rfl) | (rw [if_neg (by decide +kernel)]; exact ⟨rfl, rfl⟩))
    (fun os started H enc _ F => lifted os started H enc F)
end Go.Proofs.Ytcijjbnkdjmklaa.linesParts
namespace Go.Proofs.Ytcijjbnkdjmklaa
theorem linesPartsUpto_holds : Rows.LinesPartsUptoSaid := linesParts.over
end Go.Proofs.Ytcijjbnkdjmklaa
