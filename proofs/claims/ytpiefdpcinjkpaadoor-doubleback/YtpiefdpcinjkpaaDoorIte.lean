/- escapes: the iterator of a line's escapes. -/
import Derived.Test.YtpiefdpcinjkpaaDoorFirst
import Derived.Test.YtpiefdpcinjkpaaDoorYls
import Derived.Test.YtpiefdpcinjkpaaDoorPks
import Derived.Test.YtpiefdpcinjkpaaDoorItr
set_option linter.unusedVariables false
set_option linter.unusedSimpArgs false
namespace Go.Proofs.YtpiefdpcinjkpaaDoor
open Go.RowKit Go.Shelf
attribute [local go_sem] Oper.semAt_some

/-- The escapes of a line, each with its place, up to the first one with a fault. k: so many signs belong to the one before. -/
def esP (last : Bool) : Nat → Nat → List Int → List (Nat × Esc)
  | _, _, [] => []
  | p, k + 1, _ :: r => esP last (p + 1) k r
  | p, 0, c :: r => if c = 92 then (p, firstP r last) :: (if (firstP r last).fault = 0 then esP last (p + 1) ((firstP r last).size - 1) r else []) else esP last (p + 1) 0 r

theorem esP_skip (last : Bool) : ∀ (k p : Nat) (l : List Int), esP last p k l = esP last (p + k) 0 (l.drop k)
  | 0, p, l => by simp
  | k + 1, p, [] => by simp [esP]
  | k + 1, p, _ :: r => by
    have := esP_skip last k (p + 1) r
    rw [esP, this, List.drop_succ_cons]
    congr 1
    omega

theorem drop_at {t : List Int} {j : Nat} (h : j < t.length) : t.drop j = iAt t j :: t.drop (j + 1) := by
  rw [List.drop_eq_getElem_cons h]
  simp [iAt, h]

theorem esP_other {last : Bool} {t : List Int} {j : Nat} (h : j < t.length) (hc : iAt t j ≠ 92) : esP last j 0 (t.drop j) = esP last (j + 1) 0 (t.drop (j + 1)) := by
  rw [drop_at h, esP, if_neg hc]
theorem esP_slash {last : Bool} {t : List Int} {j : Nat} (h : j < t.length) (hc : iAt t j = 92) :
    esP last j 0 (t.drop j) = (j, firstP (t.drop (j + 1)) last) :: (if (firstP (t.drop (j + 1)) last).fault = 0 then esP last (j + (firstP (t.drop (j + 1)) last).size) 0 (t.drop (j + (firstP (t.drop (j + 1)) last).size)) else []) := by
  rw [drop_at h, esP, if_pos hc]
  by_cases hf : (firstP (t.drop (j + 1)) last).fault = 0
  · rw [if_pos hf, if_pos hf, esP_skip]
    have := (firstP_size _ last hf).1
    rw [List.drop_drop]
    congr 2
    · omega
    · congr 1; omega
  · rw [if_neg hf, if_neg hf]

def encE (x : Nat × Esc) : Array Value := #[.int .i64 (x.1 : Nat), escV x.2]

/-- What a round of the loop over escapes keeps. -/
structure Ke (n₀ B1 B2 : Nat) (A B : World) : Prop where
  below : Below n₀ A B
  b1 : B.heap[B1]? = A.heap[B1]?
  b2 : B.heap[B2]? = A.heap[B2]?
  esc : ∀ (k : Nat) (cs : Array Value) (f : Nat × Nat), A.heap[k]? = some (.cells cs 60 f) → B.heap[k]? = some (.cells cs 60 f)
theorem Ke.trans {n₀ B1 B2 : Nat} {A B C : World} (h : Ke n₀ B1 B2 A B) (k : Ke n₀ B1 B2 B C) : Ke n₀ B1 B2 A C :=
  ⟨h.below.trans k.below, k.b1.trans h.b1, k.b2.trans h.b2, fun i cs f hi => k.esc i cs f (h.esc i cs f hi)⟩
theorem Ke.refl (n₀ B1 B2 : Nat) (A : World) : Ke n₀ B1 B2 A A := ⟨Below.refl _ _, rfl, rfl, fun _ _ _ h => h⟩
theorem Ke.grown {n₀ B1 B2 : Nat} {A B : World} (hg : A.grownBy B none) (hn : n₀ ≤ A.heap.size) (h1 : B1 < A.heap.size) (h2 : B2 < A.heap.size) : Ke n₀ B1 B2 A B :=
  ⟨(grown_below hg).mono hn, hg.block B1 h1 (by simp), hg.block B2 h2 (by simp), fun k cs f hk => (hg.block k (Array.getElem?_eq_some_iff.1 hk).1 (by simp)).trans hk⟩
theorem Ke.c1 {n₀ B1 B2 : Nat} {A B : World} (h : Ke n₀ B1 B2 A B) : B.cell? ⟨B1, 0, none⟩ = A.cell? ⟨B1, 0, none⟩ := World.cell?_of_block h.b1
theorem Ke.c2 {n₀ B1 B2 : Nat} {A B : World} (h : Ke n₀ B1 B2 A B) : B.cell? ⟨B2, 0, none⟩ = A.cell? ⟨B2, 0, none⟩ := World.cell?_of_block h.b2

theorem wrapi' (x : Int) (h1 : -9223372036854775808 ≤ x) (h2 : x ≤ 9223372036854775807) : IntKind.i64.wrap x = x := by rw [IntKind.wrap_i64]; omega

/-- One of two may come up. -/
theorem Any.two {F : Fence} {n : Nat} {P : Program} {ops : Array Oper} {Q : Exit → Act → World → Prop} {S : World → Prop} {i j : Nat} {oi oj : Oper} {k : Nat} {listed : Array Bool} {a : Act} {w : World} (hr : Region.ready .any ops listed = [i, j]) (hoi : ops[i]? = some oi) (hoj : ops[j]? = some oj)
    (hwi : Region.wanted oi (yielded ops a.tmps) = true) (hwj : Region.wanted oj (yielded ops a.tmps) = true)
    (h1 : ∀ K : Act → World → Prop, (∀ a' w', S w' → Any F n P ops Q S k (listed.setIfInBounds i true) a' w' → K a' w') → Oper.wpIn F n P oi a w K Q)
    (h2 : ∀ K : Act → World → Prop, (∀ a' w', S w' → Any F n P ops Q S k (listed.setIfInBounds j true) a' w' → K a' w') → Oper.wpIn F n P oj a w K Q) : Any F n P ops Q S (k + 1) listed a w := by
  refine ⟨fun h0 => (by rw [hr] at h0; cases h0), fun x hx => ?_⟩
  rw [hr] at hx
  rcases List.mem_cons.1 hx with rfl | hx
  · refine wpOpIn_step hoi fun K hK => ?_
    rw [if_pos hwi]
    exact h1 K fun a' w' g1 g2 => hK a' w' ⟨g1, g2⟩
  · obtain rfl : x = j := by simpa using hx
    refine wpOpIn_step hoj fun K hK => ?_
    rw [if_pos hwj]
    exact h2 K fun a' w' g1 g2 => hK a' w' ⟨g1, g2⟩

theorem put3_block {W : World} {g : Nat} {a0 a1 a2 : Value} {t : TypeId} {f : Nat × Nat} (h : W.heap[g]? = some (.cells #[a0, a1, a2] t f)) (b0 b1 b2 : Value) : (put3 W g b0 b1 b2).heap[g]? = some (.cells #[b0, b1, b2] t f) := by
  unfold put3
  simp [World.setCell, Array.getElem?_modify, h]

/-- Three cells are stored. -/
theorem store3_in {F : Fence} {n : Nat} {w : World} {o : Oper} {a : Act} {K : Act → World → Prop} {Q : Exit → Act → World → Prop} {x y : Operand} (ho : o.op = .store 60 x y) (hd : o.dst = none) {g : Nat} {i0 i1 i2 : Int} {a0 a1 a2 : Value}
    (hx : a.eval x = .pointer (some ⟨g, 0, none⟩)) (hy : a.eval y = .agg #[.int .i64 i0, .int .i64 i1, .int .i64 i2])
    (r0 : w.cell? ⟨g, 0, none⟩ = some a0) (r1 : w.cell? ⟨g, 1, none⟩ = some a1) (r2 : w.cell? ⟨g, 2, none⟩ = some a2)
    (f0 : w.frozen? ⟨g, 0, none⟩ = false) (f1 : w.frozen? ⟨g, 1, none⟩ = false) (f2 : w.frozen? ⟨g, 2, none⟩ = false)
    (h : K (a.put none undef) (put3 w g (.int .i64 i0) (.int .i64 i1) (.int .i64 i2))) : Oper.wpIn F n Tryd.prog o a w K Q := by
  unfold Oper.wpIn
  refine ⟨?_, ?_⟩
  · simp [Oper.about, ho]
  · rw [Oper.semAt_plain F _ _ (by rw [ho]; intro c hc'; cases hc')]
    have e0 : execOp a.eval o = (Instr.storeAt 60 (a.eval x) (a.eval y) >>= fun _ => pure .skip) := by
      unfold execOp
      simp only [ho]
    have : (execOp a.eval o).run Tryd.prog w = .ok .skip (put3 w g (.int .i64 i0) (.int .i64 i1) (.int .i64 i2)) := by
      rw [e0, hx, hy]
      unfold put3
      go_simp
    rw [this]
    simp only [Oper.uponIn, hd]
    exact h

set_option maxRecDepth 100000 in
set_option maxHeartbeats 2000000 in
theorem esc1_in (n : Nat) (l B1 B2 n₀ c : Nat) (q : Option Addr) (t : List Int) (last : Bool) (hc : t.length ≤ c) (hm : c ≤ maxLen)
    (J Jx : Nat → World → Prop) (W : World) (hn₀ : n₀ ≤ W.heap.size) (h0n : 0 < n₀) (hT : Tab W) (hq : ∀ a, q = some a → 0 < t.length → a.block < n₀) (hI : Is W q t)
    (c1 : W.cell? ⟨B1, 0, none⟩ = some (.slice q t.length c)) (c2 : W.cell? ⟨B2, 0, none⟩ = some (.bool last))
    (hJ : AbN J) (hJx : AbN Jx)
    (hY : ∀ (m i : Nat) (x : Nat × Esc) (W1 : World), (esP last 0 0 t)[i]? = some x → J i W1 → YieldAt Fence.wide m Tryd.prog l (encE x) W1 fun e W' =>
      (e = .returned (.bool true) ∧ J (i + 1) W' ∧ Ke n₀ B1 B2 W1 W') ∨ (e = .returned (.bool false) ∧ Jx (i + 1) W')) (h0 : J 0 W) :
    CallsIn Fence.wide n Tryd.prog 36 #[.func (.yield l) #[] #[], .pointer (some ⟨B1, 0, none⟩), .pointer (some ⟨B2, 0, none⟩)] W fun e W' => (∃ v, e = .returned v) ∧
      (J (esP last 0 0 t).length W' ∨ ∃ i, Jx i W') := by
  have hm2 : (c : Int) ≤ 9223372036854775807 := by unfold maxLen at hm; omega
  have hc2 : (t.length : Int) ≤ c := by omega
  have l1 := World.block_lt_of_cell? W _ c1
  have l2 := World.block_lt_of_cell? W _ c2
  obtain ⟨T, hTT⟩ : ∃ T, esP last 0 0 t = T := ⟨_, rfl⟩
  rw [hTT] at hY ⊢
  have HTT : Hid (esP last 0 0 (t.drop 0) = T) := hTT
  clear hTT
  refine callsIn_of_wp Tryd.func36 rfl trivial ?_ rfl
  simp only [Tryd.ntmps36, List.size_toArray, List.length_cons, List.length_nil, Nat.reduceAdd, Nat.reduceSub, Array.replicate_succ, Array.replicate_zero, List.push_toArray, List.append_toArray, List.nil_append, List.cons_append]
  gi_wp2
  gi_loopw [4] (fun iv wr => ∃ (k i : Nat), k ≤ t.length ∧ iv = .int .i64 k ∧ Hid (esP last k 0 (t.drop k) = T.drop i ∧ i ≤ T.length) ∧ J i wr ∧ Ke n₀ B1 B2 W wr)
    (fun iv _ => t.length - (intOf iv).toNat)
  case atStart => exact ⟨0, 0, Nat.zero_le _, rfl, ⟨by rw [List.drop_zero (l := T)]; exact HTT.out, Nat.zero_le _⟩, h0, Ke.refl _ _ _ _⟩
  case round =>
    obtain ⟨k, i, hk, rfl, Hs, hJs, hK⟩ := hrel
    have d1 := hK.c1.trans c1
    have d2 := hK.c2.trans c2
    by_cases hlt : k < t.length
    · have hli : (k : Int) < t.length := by omega
      have hIr := hI.below hq hK.below
      obtain ⟨b, o, rfl, hu⟩ := hIr.at (by omega)
      have d0 := hu k hlt
      by_cases hx : iAt t k = 92
      · rw [hx] at d0
        obtain ⟨u, hu'⟩ : ∃ u, t.drop (k + 1) = u := ⟨_, rfl⟩
        have hul : t.length - (k + 1) = u.length := by rw [← hu']; simp
        have S : ∀ w2, (Instr.slice 25 (.slice (some ⟨b, o, none⟩) t.length c) (some (.int .i64 ((k : Int) + 1))) none none).run Tryd.prog w2 = .ok (.slice (if c = k + 1 then (some (⟨b, o, none⟩ : Addr)) else (some (⟨b, o, none⟩ : Addr)).map (·.add (k + 1))) (t.length - (k + 1)) (c - (k + 1))) w2 := fun w2 => by
          have := slice_from (some ⟨b, o, none⟩) t.length c (k + 1) (by omega) hc w2
          rw [Int.natCast_add] at this
          exact this
        have hI2 := hIr.from c (k + 1) hc
        rw [hu'] at hI2
        rw [hul] at S
        generalize (if c = k + 1 then (some (⟨b, o, none⟩ : Addr)) else (some (⟨b, o, none⟩ : Addr)).map (·.add (k + 1))) = q' at S hI2
        obtain ⟨E, hE⟩ : ∃ E, firstP u last = E := ⟨_, rfl⟩
        have FA : ∀ (n : Nat) (w2 : World), wr.grownBy w2 none → CallsIn Fence.wide n Tryd.prog 37 #[.slice q' u.length (c - (k + 1)), .bool last] w2 fun e w' => e = .returned (escV E) ∧ w2.grownBy w' none := fun n w2 hg => by
          have hTr := hT.below hK.below h0n
          have := first_any q' u (c - (k + 1)) last w2 (by omega) (by omega) (hI2.grown hg) (hTr.grown hg)
          rw [hE] at this
          exact callsIn_wide.2 this
        have hS : ∀ w2, wr.grownBy w2 none → w2.cell? ⟨B1, 0, none⟩ = some (.slice (some ⟨b, o, none⟩) t.length c) ∧ w2.cell? ⟨B2, 0, none⟩ = some (.bool last) := fun w2 hg =>
          ⟨((grown_below hg).cell (p := ⟨B1, 0, none⟩) (World.block_lt_of_cell? wr _ d1)).trans d1, ((grown_below hg).cell (p := ⟨B2, 0, none⟩) (World.block_lt_of_cell? wr _ d2)).trans d2⟩
        have e1 := wrapi' ((k : Int) + 1) (by omega) (by omega)
        have HE : Hid (firstP (t.drop (k + 1)) last = E) := by show _ = _; rw [hu']; exact hE
        have HS : Hid (T.drop i = (k, E) :: (if E.fault = 0 then esP last (k + E.size) 0 (t.drop (k + E.size)) else [])) := by
          show _ = _
          rw [← Hs.out.1, esP_slash hlt hx, HE.out]
        have HZ : Hid (E.fault = 0 → 1 ≤ E.size ∧ k + E.size ≤ t.length ∧ E.size ≤ 10) := fun hf => by
          have := firstP_size u last (by rw [hE]; exact hf)
          rw [hE] at this
          omega
        clear hu hu' hE hI2
        gi_wp2
        refine Go.wpIn_mono (Q := fun e a' w' => e = .normal ∧ ∃ b', wr.heap.size ≤ b' ∧ a' = { tmps := #[(.func (.yield l) #[] #[]), (.pointer (some ⟨B1, 0, none⟩)), (.pointer (some ⟨B2, 0, none⟩)), undef, (.int .i64 (k : Nat)), (.pointer (some ⟨b', 0, none⟩)), (.int .i64 (k : Nat)), (.slice (some ⟨b, o, none⟩) t.length c), (.int .i64 (t.length : Nat)), (.bool true), (.slice (some ⟨b, o, none⟩) t.length c), (.int .i64 (k : Nat)), (.pointer (some ⟨b, o + k, none⟩)), (.int .i64 92), (.bool false), u15, u16, (.slice (some ⟨b, o, none⟩) t.length c), (.int .i64 (k : Nat)), (.int .i64 ((k : Int) + 1)), (.slice q' u.length (c - (k + 1))), (.bool last), (escV E), u23, u24, u25, u26, u27, u28, u29, u30, u31, u32, u33, u34, u35, u36], defers := [] } ∧ wr.grownBy w' none ∧ w'.heap[b']? = some (.cells #[.int .i64 (E.size : Nat), .int .i64 E.point, .int .i64 (E.fault : Nat)] 60)) ?_ ?_
        · refine region_pickN (fun w' => w'.cell? ⟨B1, 0, none⟩ = some (.slice (some ⟨b, o, none⟩) t.length c) ∧ w'.cell? ⟨B2, 0, none⟩ = some (.bool last)) (by kernel_rfl) ?_
          show Any _ _ _ _ _ _ 8 #[false, false, false, false, false, false, false, false] { tmps := #[(.func (.yield l) #[] #[]), (.pointer (some ⟨B1, 0, none⟩)), (.pointer (some ⟨B2, 0, none⟩)), undef, (.int .i64 (k : Nat)), u5, (.int .i64 (k : Nat)), (.slice (some ⟨b, o, none⟩) t.length c), (.int .i64 (t.length : Nat)), (.bool true), (.slice (some ⟨b, o, none⟩) t.length c), (.int .i64 (k : Nat)), (.pointer (some ⟨b, o + k, none⟩)), (.int .i64 92), (.bool false), u15, u16, u17, u18, u19, u20, u21, u22, u23, u24, u25, u26, u27, u28, u29, u30, u31, u32, u33, u34, u35, u36], defers := [] } wr.drew
          refine Any.take (i := 0) (v := (.slice (some ⟨b, o, none⟩) t.length c)) (wideF) rfl (by kernel_rfl) (by kernel_rfl) (by kernel_rfl) (fun _ _ _ h => h) (.inl ⟨rfl, fun w hw => by have := hw.1; go_simp⟩) ⟨d1, d2⟩ ?_
          show Any _ _ _ _ _ _ 7 #[true, false, false, false, false, false, false, false] { tmps := #[(.func (.yield l) #[] #[]), (.pointer (some ⟨B1, 0, none⟩)), (.pointer (some ⟨B2, 0, none⟩)), undef, (.int .i64 (k : Nat)), u5, (.int .i64 (k : Nat)), (.slice (some ⟨b, o, none⟩) t.length c), (.int .i64 (t.length : Nat)), (.bool true), (.slice (some ⟨b, o, none⟩) t.length c), (.int .i64 (k : Nat)), (.pointer (some ⟨b, o + k, none⟩)), (.int .i64 92), (.bool false), u15, u16, (.slice (some ⟨b, o, none⟩) t.length c), u18, u19, u20, u21, u22, u23, u24, u25, u26, u27, u28, u29, u30, u31, u32, u33, u34, u35, u36], defers := [] } wr.drew
          refine Any.take (i := 1) (v := (.int .i64 (k : Nat))) (wideF) rfl (by kernel_rfl) (by kernel_rfl) (by kernel_rfl) (fun _ _ _ h => h) (.inl ⟨rfl, fun w _ => by go_simp⟩) ⟨d1, d2⟩ ?_
          show Any _ _ _ _ _ _ 6 #[true, true, false, false, false, false, false, false] { tmps := #[(.func (.yield l) #[] #[]), (.pointer (some ⟨B1, 0, none⟩)), (.pointer (some ⟨B2, 0, none⟩)), undef, (.int .i64 (k : Nat)), u5, (.int .i64 (k : Nat)), (.slice (some ⟨b, o, none⟩) t.length c), (.int .i64 (t.length : Nat)), (.bool true), (.slice (some ⟨b, o, none⟩) t.length c), (.int .i64 (k : Nat)), (.pointer (some ⟨b, o + k, none⟩)), (.int .i64 92), (.bool false), u15, u16, (.slice (some ⟨b, o, none⟩) t.length c), (.int .i64 (k : Nat)), u19, u20, u21, u22, u23, u24, u25, u26, u27, u28, u29, u30, u31, u32, u33, u34, u35, u36], defers := [] } wr.drew
          refine Any.take (i := 2) (v := (.int .i64 ((k : Int) + 1))) (wideF) rfl (by kernel_rfl) (by kernel_rfl) (by kernel_rfl) (fun _ _ _ h => h) (.inl ⟨rfl, fun w _ => by go_simp⟩) ⟨d1, d2⟩ ?_
          show Any _ _ _ _ _ _ 5 #[true, true, true, false, false, false, false, false] { tmps := #[(.func (.yield l) #[] #[]), (.pointer (some ⟨B1, 0, none⟩)), (.pointer (some ⟨B2, 0, none⟩)), undef, (.int .i64 (k : Nat)), u5, (.int .i64 (k : Nat)), (.slice (some ⟨b, o, none⟩) t.length c), (.int .i64 (t.length : Nat)), (.bool true), (.slice (some ⟨b, o, none⟩) t.length c), (.int .i64 (k : Nat)), (.pointer (some ⟨b, o + k, none⟩)), (.int .i64 92), (.bool false), u15, u16, (.slice (some ⟨b, o, none⟩) t.length c), (.int .i64 (k : Nat)), (.int .i64 ((k : Int) + 1)), u20, u21, u22, u23, u24, u25, u26, u27, u28, u29, u30, u31, u32, u33, u34, u35, u36], defers := [] } wr.drew
          refine Any.take (i := 3) (v := (.slice q' u.length (c - (k + 1)))) (wideF) rfl (by kernel_rfl) (by kernel_rfl) (by kernel_rfl) (fun _ _ _ h => h) (.inl ⟨rfl, fun w _ => by go_simp⟩) ⟨d1, d2⟩ ?_
          show Any _ _ _ _ _ _ 4 #[true, true, true, true, false, false, false, false] { tmps := #[(.func (.yield l) #[] #[]), (.pointer (some ⟨B1, 0, none⟩)), (.pointer (some ⟨B2, 0, none⟩)), undef, (.int .i64 (k : Nat)), u5, (.int .i64 (k : Nat)), (.slice (some ⟨b, o, none⟩) t.length c), (.int .i64 (t.length : Nat)), (.bool true), (.slice (some ⟨b, o, none⟩) t.length c), (.int .i64 (k : Nat)), (.pointer (some ⟨b, o + k, none⟩)), (.int .i64 92), (.bool false), u15, u16, (.slice (some ⟨b, o, none⟩) t.length c), (.int .i64 (k : Nat)), (.int .i64 ((k : Int) + 1)), (.slice q' u.length (c - (k + 1))), u21, u22, u23, u24, u25, u26, u27, u28, u29, u30, u31, u32, u33, u34, u35, u36], defers := [] } wr.drew
          refine Any.take (i := 4) (v := (.bool last)) (wideF) rfl (by kernel_rfl) (by kernel_rfl) (by kernel_rfl) (fun _ _ _ h => h) (.inl ⟨rfl, fun w hw => by have := hw.2; go_simp⟩) ⟨d1, d2⟩ ?_
          show Any _ _ _ _ _ _ 3 #[true, true, true, true, true, false, false, false] { tmps := #[(.func (.yield l) #[] #[]), (.pointer (some ⟨B1, 0, none⟩)), (.pointer (some ⟨B2, 0, none⟩)), undef, (.int .i64 (k : Nat)), u5, (.int .i64 (k : Nat)), (.slice (some ⟨b, o, none⟩) t.length c), (.int .i64 (t.length : Nat)), (.bool true), (.slice (some ⟨b, o, none⟩) t.length c), (.int .i64 (k : Nat)), (.pointer (some ⟨b, o + k, none⟩)), (.int .i64 92), (.bool false), u15, u16, (.slice (some ⟨b, o, none⟩) t.length c), (.int .i64 (k : Nat)), (.int .i64 ((k : Int) + 1)), (.slice q' u.length (c - (k + 1))), (.bool last), u22, u23, u24, u25, u26, u27, u28, u29, u30, u31, u32, u33, u34, u35, u36], defers := [] } wr.drew
          refine Any.two (i := 5) (j := 6) (by kernel_rfl) rfl rfl rfl rfl (fun K hK => ?_) (fun K hK => ?_)
          · go_simp
            refine ⟨trivial, (fun h => by cases h), ?_⟩
            refine (FA _ wr.drew (grown_drew wr)).mono ?_
            rintro e W1 ⟨rfl, hg⟩
            have hg1 := grown_trans (grown_drew wr) hg
            obtain ⟨s1, s2⟩ := hS W1 hg1
            refine hK _ _ ⟨s1, s2⟩ ?_
            clear hK K
            show Any _ _ _ _ _ _ 2 #[true, true, true, true, true, true, false, false] { tmps := #[(.func (.yield l) #[] #[]), (.pointer (some ⟨B1, 0, none⟩)), (.pointer (some ⟨B2, 0, none⟩)), undef, (.int .i64 (k : Nat)), u5, (.int .i64 (k : Nat)), (.slice (some ⟨b, o, none⟩) t.length c), (.int .i64 (t.length : Nat)), (.bool true), (.slice (some ⟨b, o, none⟩) t.length c), (.int .i64 (k : Nat)), (.pointer (some ⟨b, o + k, none⟩)), (.int .i64 92), (.bool false), u15, u16, (.slice (some ⟨b, o, none⟩) t.length c), (.int .i64 (k : Nat)), (.int .i64 ((k : Int) + 1)), (.slice q' u.length (c - (k + 1))), (.bool last), (escV E), u23, u24, u25, u26, u27, u28, u29, u30, u31, u32, u33, u34, u35, u36], defers := [] } W1
            refine Any.one (i := 6) (by kernel_rfl) rfl rfl (fun K hK => ?_)
            go_simp
            obtain ⟨s1, s2⟩ := hS _ (grown_trans hg1 (grown_new W1 (.cells #[.int .i64 0, .int .i64 0, .int .i64 0] 60)))
            refine hK _ _ ⟨s1, s2⟩ ?_
            clear hK K
            show Any _ _ _ _ _ _ 1 #[true, true, true, true, true, true, true, false] { tmps := #[(.func (.yield l) #[] #[]), (.pointer (some ⟨B1, 0, none⟩)), (.pointer (some ⟨B2, 0, none⟩)), undef, (.int .i64 (k : Nat)), (.pointer (some ⟨W1.heap.size, 0, none⟩)), (.int .i64 (k : Nat)), (.slice (some ⟨b, o, none⟩) t.length c), (.int .i64 (t.length : Nat)), (.bool true), (.slice (some ⟨b, o, none⟩) t.length c), (.int .i64 (k : Nat)), (.pointer (some ⟨b, o + k, none⟩)), (.int .i64 92), (.bool false), u15, u16, (.slice (some ⟨b, o, none⟩) t.length c), (.int .i64 (k : Nat)), (.int .i64 ((k : Int) + 1)), (.slice q' u.length (c - (k + 1))), (.bool last), (escV E), u23, u24, u25, u26, u27, u28, u29, u30, u31, u32, u33, u34, u35, u36], defers := [] } (W1.alloc (.cells #[.int .i64 0, .int .i64 0, .int .i64 0] 60))
            refine Any.one (i := 7) (by kernel_rfl) rfl rfl (fun K hK => ?_)
            obtain ⟨r0, r1, r2, f0, f1, f2⟩ := box3 (grown_refl (W1.alloc (.cells #[.int .i64 0, .int .i64 0, .int .i64 0] 60)))
            have hb3 := put3_block (World.alloc_heap_new W1 (.cells #[.int .i64 0, .int .i64 0, .int .i64 0] 60)) (.int .i64 (E.size : Nat)) (.int .i64 E.point) (.int .i64 (E.fault : Nat))
            have hg3 := put3_grown (grown_trans hg1 (grown_new W1 (.cells #[.int .i64 0, .int .i64 0, .int .i64 0] 60))) (g := W1.heap.size) hg1.size (.int .i64 (E.size : Nat)) (.int .i64 E.point) (.int .i64 (E.fault : Nat))
            refine store3_in rfl rfl rfl rfl r0 r1 r2 f0 f1 f2 ?_
            refine hK _ _ (hS _ hg3) ?_
            clear hK K
            show Any _ _ _ _ _ _ 0 #[true, true, true, true, true, true, true, true] { tmps := #[(.func (.yield l) #[] #[]), (.pointer (some ⟨B1, 0, none⟩)), (.pointer (some ⟨B2, 0, none⟩)), undef, (.int .i64 (k : Nat)), (.pointer (some ⟨W1.heap.size, 0, none⟩)), (.int .i64 (k : Nat)), (.slice (some ⟨b, o, none⟩) t.length c), (.int .i64 (t.length : Nat)), (.bool true), (.slice (some ⟨b, o, none⟩) t.length c), (.int .i64 (k : Nat)), (.pointer (some ⟨b, o + k, none⟩)), (.int .i64 92), (.bool false), u15, u16, (.slice (some ⟨b, o, none⟩) t.length c), (.int .i64 (k : Nat)), (.int .i64 ((k : Int) + 1)), (.slice q' u.length (c - (k + 1))), (.bool last), (escV E), u23, u24, u25, u26, u27, u28, u29, u30, u31, u32, u33, u34, u35, u36], defers := [] } (put3 (W1.alloc (.cells #[.int .i64 0, .int .i64 0, .int .i64 0] 60)) W1.heap.size (.int .i64 (E.size : Nat)) (.int .i64 E.point) (.int .i64 (E.fault : Nat)))
            refine Any.done (by kernel_rfl) ?_
            exact ⟨rfl, W1.heap.size, hg1.size, rfl, hg3, hb3⟩
          · go_simp
            obtain ⟨s1, s2⟩ := hS _ (grown_trans (grown_new wr (.cells #[.int .i64 0, .int .i64 0, .int .i64 0] 60)) (grown_drew _))
            refine hK _ _ ⟨s1, s2⟩ ?_
            clear hK K
            show Any _ _ _ _ _ _ 2 #[true, true, true, true, true, false, true, false] { tmps := #[(.func (.yield l) #[] #[]), (.pointer (some ⟨B1, 0, none⟩)), (.pointer (some ⟨B2, 0, none⟩)), undef, (.int .i64 (k : Nat)), (.pointer (some ⟨wr.heap.size, 0, none⟩)), (.int .i64 (k : Nat)), (.slice (some ⟨b, o, none⟩) t.length c), (.int .i64 (t.length : Nat)), (.bool true), (.slice (some ⟨b, o, none⟩) t.length c), (.int .i64 (k : Nat)), (.pointer (some ⟨b, o + k, none⟩)), (.int .i64 92), (.bool false), u15, u16, (.slice (some ⟨b, o, none⟩) t.length c), (.int .i64 (k : Nat)), (.int .i64 ((k : Int) + 1)), (.slice q' u.length (c - (k + 1))), (.bool last), u22, u23, u24, u25, u26, u27, u28, u29, u30, u31, u32, u33, u34, u35, u36], defers := [] } (wr.alloc (.cells #[.int .i64 0, .int .i64 0, .int .i64 0] 60)).drew
            refine Any.one (i := 5) (by kernel_rfl) rfl rfl (fun K hK => ?_)
            go_simp
            refine ⟨trivial, (fun h => by cases h), ?_⟩
            refine (FA _ (wr.alloc (.cells #[.int .i64 0, .int .i64 0, .int .i64 0] 60)).drew (grown_trans (grown_new _ _) (grown_drew _))).mono ?_
            rintro e W1 ⟨rfl, hg⟩
            replace hg := grown_trans (grown_drew _) hg
            have hg1 := grown_trans (grown_new _ _) hg
            refine hK _ _ (hS W1 hg1) ?_
            clear hK K
            show Any _ _ _ _ _ _ 1 #[true, true, true, true, true, true, true, false] { tmps := #[(.func (.yield l) #[] #[]), (.pointer (some ⟨B1, 0, none⟩)), (.pointer (some ⟨B2, 0, none⟩)), undef, (.int .i64 (k : Nat)), (.pointer (some ⟨wr.heap.size, 0, none⟩)), (.int .i64 (k : Nat)), (.slice (some ⟨b, o, none⟩) t.length c), (.int .i64 (t.length : Nat)), (.bool true), (.slice (some ⟨b, o, none⟩) t.length c), (.int .i64 (k : Nat)), (.pointer (some ⟨b, o + k, none⟩)), (.int .i64 92), (.bool false), u15, u16, (.slice (some ⟨b, o, none⟩) t.length c), (.int .i64 (k : Nat)), (.int .i64 ((k : Int) + 1)), (.slice q' u.length (c - (k + 1))), (.bool last), (escV E), u23, u24, u25, u26, u27, u28, u29, u30, u31, u32, u33, u34, u35, u36], defers := [] } W1
            refine Any.one (i := 7) (by kernel_rfl) rfl rfl (fun K hK => ?_)
            obtain ⟨r0, r1, r2, f0, f1, f2⟩ := box3 hg
            have hb3 := put3_block ((hg.block wr.heap.size (by simp) (by simp)).trans (World.alloc_heap_new wr (.cells #[.int .i64 0, .int .i64 0, .int .i64 0] 60))) (.int .i64 (E.size : Nat)) (.int .i64 E.point) (.int .i64 (E.fault : Nat))
            have hg3 := put3_grown hg1 (g := wr.heap.size) (Nat.le_refl _) (.int .i64 (E.size : Nat)) (.int .i64 E.point) (.int .i64 (E.fault : Nat))
            refine store3_in rfl rfl rfl rfl r0 r1 r2 f0 f1 f2 ?_
            refine hK _ _ (hS _ hg3) ?_
            clear hK K
            show Any _ _ _ _ _ _ 0 #[true, true, true, true, true, true, true, true] { tmps := #[(.func (.yield l) #[] #[]), (.pointer (some ⟨B1, 0, none⟩)), (.pointer (some ⟨B2, 0, none⟩)), undef, (.int .i64 (k : Nat)), (.pointer (some ⟨wr.heap.size, 0, none⟩)), (.int .i64 (k : Nat)), (.slice (some ⟨b, o, none⟩) t.length c), (.int .i64 (t.length : Nat)), (.bool true), (.slice (some ⟨b, o, none⟩) t.length c), (.int .i64 (k : Nat)), (.pointer (some ⟨b, o + k, none⟩)), (.int .i64 92), (.bool false), u15, u16, (.slice (some ⟨b, o, none⟩) t.length c), (.int .i64 (k : Nat)), (.int .i64 ((k : Int) + 1)), (.slice q' u.length (c - (k + 1))), (.bool last), (escV E), u23, u24, u25, u26, u27, u28, u29, u30, u31, u32, u33, u34, u35, u36], defers := [] } (put3 W1 wr.heap.size (.int .i64 (E.size : Nat)) (.int .i64 E.point) (.int .i64 (E.fault : Nat)))
            refine Any.done (by kernel_rfl) ?_
            exact ⟨rfl, wr.heap.size, Nat.le_refl _, rfl, hg3, hb3⟩
        · rintro e a' w' ⟨rfl, b', hb', rfl, hg, hblk⟩
          have r0 : w'.cell? ⟨b', 0, none⟩ = some (.int .i64 (E.size : Nat)) := by simp [World.cell?, hblk]
          have r1 : w'.cell? ⟨b', 1, none⟩ = some (.int .i64 E.point) := by simp [World.cell?, hblk]
          have r2 : w'.cell? ⟨b', 2, none⟩ = some (.int .i64 (E.fault : Nat)) := by simp [World.cell?, hblk]
          have hKw : Ke n₀ B1 B2 W w' := hK.trans (Ke.grown hg (Nat.le_trans hn₀ hK.below.size) (World.block_lt_of_cell? wr _ d1) (World.block_lt_of_cell? wr _ d2))
          have hTi : T[i]? = some (k, E) := by
            have := congrArg (·[0]?) HS.out
            simpa using this
          have Y := fun m => hY m i (k, E) w' hTi (hJ _ _ _ hJs hg)
          simp only [encE, escV] at Y
          obtain ⟨s0, p0, f0⟩ := E
          dsimp only at r0 r1 r2 hblk HS HZ Y
          obtain ⟨fn, tmps, assign, body, hy, hR⟩ := Y (n - 1)
          clear hJ hJx hY Y
          gi_wp2
          refine ⟨(fun h => by cases h), hR.mono ?_⟩
          rintro e3 W3 (⟨rfl, hJ3, hk3⟩ | ⟨rfl, hJx3⟩)
          · have hblk3 := hk3.esc b' _ _ hblk
            have q0 : W3.cell? ⟨b', 0, none⟩ = some (.int .i64 (s0 : Nat)) := by simp [World.cell?, hblk3]
            have q2 : W3.cell? ⟨b', 2, none⟩ = some (.int .i64 (f0 : Nat)) := by simp [World.cell?, hblk3]
            clear hR hy
            by_cases hf : f0 = 0
            · subst hf
              obtain ⟨z1, z2, z3⟩ := HZ.out rfl
              have HS1 : Hid (esP last (k + s0) 0 (t.drop (k + s0)) = T.drop (i + 1) ∧ i + 1 ≤ T.length) := by
                have h1 := HS.out
                rw [if_pos rfl] at h1
                have h2 := congrArg (List.drop 1) h1
                rw [List.drop_drop, List.drop_succ_cons, List.drop_zero] at h2
                have h3 := congrArg List.length h1
                simp only [List.length_drop, List.length_cons] at h3
                exact ⟨h2.symm, by omega⟩
              clear HS HZ
              gi_wp2
              go_roundw
              case rel => exact ⟨k + s0, i + 1, by omega, by go_num, HS1, hJ3, hKw.trans hk3⟩
              case measure => simp [intOf]; omega
            · have hf' : ((f0 : Int) == 0) = false := by simpa using hf
              have hf2 : ¬ (f0 : Int) = 0 := by omega
              have hi : i + 1 = T.length := by
                have h1 := HS.out
                rw [if_neg hf] at h1
                have h3 := congrArg List.length h1
                simp only [List.length_drop, List.length_cons, List.length_nil] at h3
                omega
              rw [hi] at hJ3
              clear HS HZ hi
              gi_wp2
              refine bodyPost_ret (results_none rfl _ _ _) rfl ?_
              exact ⟨⟨_, rfl⟩, .inl hJ3⟩
          · clear hR hy
            gi_wp2
            refine bodyPost_ret (results_none rfl _ _ _) rfl ?_
            exact ⟨⟨_, rfl⟩, .inr ⟨_, hJx3⟩⟩
      · have hx' : (iAt t k == 92) = false := by simpa using hx
        have Hs' : Hid (esP last (k + 1) 0 (t.drop (k + 1)) = T.drop i ∧ i ≤ T.length) := ⟨by rw [← esP_other hlt hx]; exact Hs.out.1, Hs.out.2⟩
        generalize iAt t k = x at d0 hx hx'
        clear hJ hJx hY hu
        gi_wp2
        go_roundw
        case rel => exact ⟨k + 1, i, by omega, by go_num, Hs', hJs, hK⟩
        case measure => simp [intOf]; omega
    · obtain rfl : k = t.length := by omega
      have hi : i = T.length := by
        have h1 := Hs.out.1
        rw [List.drop_length] at h1
        have h2 := congrArg List.length h1
        simp [esP] at h2
        have := Hs.out.2
        omega
      subst hi
      clear hJ hJx hY
      gi_wp2
      go_end0
      exact ⟨⟨_, rfl⟩, .inl hJs⟩

theorem esc_seq (n : Nat) (B1 B2 n₀ c : Nat) (q : Option Addr) (t : List Int) (last : Bool) (hc : t.length ≤ c) (hm : c ≤ maxLen) (w : World) (hn₀ : n₀ ≤ w.heap.size) (h0n : 0 < n₀) (hT : Tab w) (hq : ∀ a, q = some a → 0 < t.length → a.block < n₀) (hI : Is w q t)
    (c1 : w.cell? ⟨B1, 0, none⟩ = some (.slice q t.length c)) (c2 : w.cell? ⟨B2, 0, none⟩ = some (.bool last)) :
    SeqT n Tryd.prog 36 #[.pointer (some ⟨B1, 0, none⟩), .pointer (some ⟨B2, 0, none⟩)] encE (esP last 0 0 t) (Ke n₀ B1 B2) w := fun l J Jx W hW _ hJ hJx hY h0 =>
  esc1_in n l B1 B2 n₀ c q t last hc hm J Jx W (Nat.le_trans hn₀ hW.size) h0n (hT.on hW) hq (hI.on hW) ((hW.cell (p := ⟨B1, 0, none⟩) (World.block_lt_of_cell? w _ c1)).trans c1) ((hW.cell (p := ⟨B2, 0, none⟩) (World.block_lt_of_cell? w _ c2)).trans c2) hJ hJx hY h0

set_option maxHeartbeats 1000000 in
theorem escapes_in (n : Nat) (q : Option Addr) (len c : Nat) (last : Bool) (w : World) :
    CallsIn Fence.wide n Tryd.prog 28 #[.slice q len c, .bool last] w fun e w' => e = .returned (.func (.func 36) #[] #[.pointer (some ⟨w.heap.size, 0, none⟩), .pointer (some ⟨w.heap.size + 1, 0, none⟩)]) ∧ w' = (w.alloc (.cells #[.slice q len c] 25)).alloc (.cells #[.bool last] 4) := by
  refine callsIn_of_wp Tryd.func28 rfl trivial ?_ rfl
  simp only [Tryd.ntmps28, List.size_toArray, List.length_cons, List.length_nil, Nat.reduceAdd, Nat.reduceSub, Array.replicate_succ, Array.replicate_zero, List.push_toArray, List.append_toArray, List.nil_append, List.cons_append]
  gi_wp2
  go_ret
  exact ⟨rfl, rfl⟩
end Go.Proofs.YtpiefdpcinjkpaaDoor
