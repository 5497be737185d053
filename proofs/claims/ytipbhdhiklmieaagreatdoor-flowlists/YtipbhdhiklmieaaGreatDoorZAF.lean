/- The walk reads a name. -/
import Derived.Test.YtipbhdhiklmieaaGreatDoorZAE
import Derived.Test.YtipbhdhiklmieaaGreatDoorZAC
set_option linter.all false
set_option maxRecDepth 100000
set_option maxHeartbeats 4000000
namespace Go.Proofs.YtipbhdhiklmieaaGreatDoor
open Go.RowKit Go.Shelf
def Reads (fid : Nat) (rd : List Int -> ByteArray × Nat × Bool) : Prop := ∀ (q : Option Addr) (t : List Int) (c : Nat) (W : World), t.length <= 1300 -> t.length <= c -> c <= maxLen -> Is W q t -> Calls Tryz.prog fid #[.slice q t.length c] W fun en w' => en = .returned (.tuple #[.string (rd t).1, .int .i64 ((rd t).2.1 : Nat), .bool (rd t).2.2]) /\ Below W.heap.size W w'
theorem Okp.more {E : Env} {p : Pl} (hp : Okp E p) {m : Nat} (hm : m <= (rst E.L p).length) : Okp E (p.plus m) := by
 obtain ⟨x, hx, hk⟩ := hp
 rw [rst_at hx, List.length_drop] at hm
 exact ⟨x, hx, by show p.k + m <= _; omega⟩
theorem Okp.lek {E : Env} {p : Pl} (hp : Okp E p) (hf : Fine E) : (p.k : Int) <= 1048576 := by
 obtain ⟨x, hx, hk⟩ := hp
 have := hf.txt _ x hx
 omega
theorem Bx.kee {w w' : World} {wb b : Nat} {i k : Int} (h : Bx w b i k) (hk : Kee wb w w') : Bx w' b i k := hk.keep b _ h (.inr (by rintro (e | e | e) <;> cases e))
theorem name100_any {w : World} {wb : Nat} {E : Env} {s : St} {ov tv : Value} {O : Orc} {rd : List Int -> ByteArray × Nat × Bool} (LO : LowC O) (LR : Reads 100 rd) (hrd : ∀ t, (rd t).2.1 <= t.length) (h : Wk w wb E s ov tv) (hf : Fine E) (had : ByteArray) (ah : Nat) (hp : Okp E (s.p.plus ah)) (hah : ah <= 1) :
  Calls Tryz.prog 99 #[.pointer (some ⟨wb, 0, none⟩), .string had, .int .i64 (ah : Nat), .func (.func 100) #[] #[]] w fun en w' => Kee wb w w' /\ match namW O E.L rd had ah s.p with
   | .ok (nm, r) => en = .returned (.tuple #[.string nm, .int .i64 0]) /\ Wk w' wb E { s with p := r } ov tv
   | .error c => en = .returned (.tuple #[.string ⟨#[]⟩, .int .i64 2]) := by
 have hpk : (s.p.k : Int) + (ah : Nat) <= 9223372036854775807 := by
  have := hp.lek hf
  simp only [Pl.plus] at this
  omega
 have c4 := h.cell 4
 have c5 := h.cell 5
 simp at c4 c5
 obtain ⟨fr, hfr⟩ : ∃ fr, s.p.plus ah = fr := ⟨_, rfl⟩
 have PL1 : ∀ W : World, Calls Tryz.prog 36 #[.agg #[.int .i64 (s.p.i : Nat), .int .i64 (s.p.k : Nat)], .int .i64 (ah : Nat)] W fun en w' => en = .returned fr.v /\ Below W.heap.size W w' := fun W => by rw [<- hfr]; exact plus_any s.p ah W hpk
 rw [hfr] at hp
 unfold namW
 rw [hfr]
 obtain ⟨hI, hl1, hl2, hl3, hl4⟩ := rest_is h.lin hf hp
 have hl5 := rest_small hf hp
 obtain ⟨R, hR⟩ : ∃ R, rd (rst E.L fr) = R := ⟨_, rfl⟩
 have hRl := hrd (rst E.L fr)
 rw [hR] at hRl |-
 obtain ⟨nm, sz, right⟩ := R
 dsimp only at hRl |-
 have hp2 : Okp E (fr.plus sz) := hp.more hRl
 have hfk := hp.lek hf
 obtain ⟨r, hr⟩ : ∃ r, fr.plus sz = r := ⟨_, rfl⟩
 have PL2 : ∀ W : World, Calls Tryz.prog 36 #[.agg #[.int .i64 (fr.i : Nat), .int .i64 (fr.k : Nat)], .int .i64 (sz : Nat)] W fun en w' => en = .returned r.v /\ Below W.heap.size W w' := fun W => by rw [<- hr]; exact plus_any fr sz W (by omega)
 rw [hr] at hp2 |-
 have F1 : Hid (∀ V1, Below w.heap.size w V1 -> Below w.heap.size w (V1.alloc (.cells #[.int .i64 (fr.i : Nat), .int .i64 (fr.k : Nat)] 60)) /\ Bx (V1.alloc (.cells #[.int .i64 (fr.i : Nat), .int .i64 (fr.k : Nat)] 60)) V1.heap.size (fr.i : Nat) (fr.k : Nat) /\ Calls Tryz.prog 54 #[.pointer (some ⟨wb, 0, none⟩), fr.v] (V1.alloc (.cells #[.int .i64 (fr.i : Nat), .int .i64 (fr.k : Nat)] 60)) fun en w' => en = .returned (.slice (rq E fr) (rst E.L fr).length (rc E fr)) /\ Below (V1.alloc (.cells #[.int .i64 (fr.i : Nat), .int .i64 (fr.k : Nat)] 60)).heap.size (V1.alloc (.cells #[.int .i64 (fr.i : Nat), .int .i64 (fr.k : Nat)] 60)) w') := fun V1 hB => by
  have a1 := hB.alloc hB.size (.cells #[.int .i64 (fr.i : Nat), .int .i64 (fr.k : Nat)] 60)
  exact ⟨a1, Bx.new _ _ _, rest_any (h.on a1) hf hp⟩
 have F2 : Hid (∀ (A V2 : World) {b : Nat}, Below w.heap.size w A -> Bx A b (fr.i : Nat) (fr.k : Nat) -> Below A.heap.size A V2 -> Below w.heap.size w V2 /\ Bx V2 b (fr.i : Nat) (fr.k : Nat) /\ Calls Tryz.prog 100 #[.slice (rq E fr) (rst E.L fr).length (rc E fr)] V2 fun en w' => en = .returned (.tuple #[.string nm, .int .i64 (sz : Nat), .bool right]) /\ Below V2.heap.size V2 w') := fun A V2 b hA hb hB => by
  have a1 := hA.trans (hB.mono hA.size)
  refine ⟨a1, hb.on hB, ?_⟩
  have := LR (rq E fr) (rst E.L fr) (rc E fr) V2 hl5 hl1 hl2 (hI.on a1)
  rw [hR] at this
  exact this
 have F3 : Hid (∀ (A V3 : World) {b : Nat}, Below w.heap.size w A -> Bx A b (fr.i : Nat) (fr.k : Nat) -> Below A.heap.size A V3 -> Below w.heap.size w V3 /\ Bx V3 b (fr.i : Nat) (fr.k : Nat) /\ Wk V3 wb E s ov tv /\ ∀ V4, Below V3.heap.size V3 V4 -> Calls Tryz.prog 143 #[.pointer (some ⟨wb, 0, none⟩), r.v] V4 fun en w' => en = .returned (.bool (endW O E.L r)) /\ Below V4.heap.size V4 w') := fun A V3 b hA hb hB => by
  have a1 := hA.trans (hB.mono hA.size)
  exact ⟨a1, hb.on hB, h.on a1, fun V4 hV => endsName_any LO (h.on (a1.trans (hV.mono a1.size))) hf hp2⟩
 have F5 : Hid (∀ (A V4 V5 : World) {b : Nat}, Below w.heap.size w A -> Bx A b (fr.i : Nat) (fr.k : Nat) -> Below A.heap.size A V4 -> Below V4.heap.size V4 V5 -> Below w.heap.size w V5 /\ Bx V5 b (fr.i : Nat) (fr.k : Nat) /\ Wk V5 wb E s ov tv) := fun A V4 V5 b hA hb h4 h5 => by
  have a0 := h4.trans (h5.mono h4.size)
  have a1 := hA.trans (a0.mono hA.size)
  exact ⟨a1, hb.on a0, h.on a1⟩
 have hsz : (sz : Int) <= 1048576 := by omega
 have hse := str_isE had
 clear h hI hR hrd hfr hr LO LR hl1 hl2 hl4 hp hp2
 generalize (rst E.L fr).length = tl at *
 generalize rq E fr = rqv at *
 generalize rc E fr = rcv at *
 by_cases e1 : had.size = 0
 ·rw [decide_eq_true e1] at hse
  cases right with
  | false =>
   rw [if_pos (.inr (.inl rfl))]
   clear e1 PL2
   go_enter Tryz.func99, Tryz.ntmps99
   go_wp2_with (first | (go_at_call 36; refine (PL1 _).mono ?_; clear PL1; rintro en V1 ⟨rfl, hB1⟩; obtain ⟨a1, a2, RS⟩ := F1.out V1 hB1; have u0 := a2.cell 0; have u1 := a2.cell 1; simp at u0 u1) | (go_at_call 54; refine RS.mono ?_; clear RS; rintro en V2 ⟨rfl, hB2⟩; obtain ⟨b1, b2, RD⟩ := F2.out _ V2 a1 a2 hB2; have v0 := b2.cell 0; have v1 := b2.cell 1; simp at v0 v1) | (go_at_call 100; refine RD.mono ?_; clear RD; rintro en V3 ⟨rfl, hB3⟩; obtain ⟨c1, c2, c3, EN⟩ := F3.out _ V3 b1 b2 hB3; have w0 := c2.cell 0; have w1 := c2.cell 1; simp at w0 w1))
   go_ret2
   exact ⟨Kee.of c1, rfl⟩
  | true =>
   cases hen : endW O E.L r with
   | false =>
    rw [if_pos (.inr (.inr rfl))]
    rw [hen] at F3
    clear e1 hen
    go_enter Tryz.func99, Tryz.ntmps99
    go_wp2_with (first | (go_at_call 36; refine (PL1 _).mono ?_; clear PL1; rintro en V1 ⟨rfl, hB1⟩; obtain ⟨a1, a2, RS⟩ := F1.out V1 hB1; have u0 := a2.cell 0; have u1 := a2.cell 1; simp at u0 u1) | (go_at_call 54; refine RS.mono ?_; clear RS; rintro en V2 ⟨rfl, hB2⟩; obtain ⟨b1, b2, RD⟩ := F2.out _ V2 a1 a2 hB2; have v0 := b2.cell 0; have v1 := b2.cell 1; simp at v0 v1) | (go_at_call 100; refine RD.mono ?_; clear RD; rintro en V3 ⟨rfl, hB3⟩; obtain ⟨c1, c2, c3, EN⟩ := F3.out _ V3 b1 b2 hB3; have w0 := c2.cell 0; have w1 := c2.cell 1; simp at w0 w1) | (go_at_call 36; refine (PL2 _).mono ?_; rintro en V4 ⟨rfl, hB4⟩; have EN4 := EN V4 hB4) | (go_at_call 143; refine EN4.mono ?_; clear EN4; rintro en V5 ⟨rfl, hB5⟩; obtain ⟨d1, d2, d3⟩ := F5.out _ _ V5 c1 c2 hB4 hB5; have y0 := d2.cell 0; have y1 := d2.cell 1; simp at y0 y1))
    go_ret2
    exact ⟨Kee.of d1, rfl⟩
   | true =>
    rw [if_neg (by rintro (h | h | h); exact h e1; cases h; cases h)]
    rw [hen] at F3
    clear e1 hen
    go_enter Tryz.func99, Tryz.ntmps99
    go_wp2_with (first | (go_at_call 36; refine (PL1 _).mono ?_; clear PL1; rintro en V1 ⟨rfl, hB1⟩; obtain ⟨a1, a2, RS⟩ := F1.out V1 hB1; have u0 := a2.cell 0; have u1 := a2.cell 1; simp at u0 u1) | (go_at_call 54; refine RS.mono ?_; clear RS; rintro en V2 ⟨rfl, hB2⟩; obtain ⟨b1, b2, RD⟩ := F2.out _ V2 a1 a2 hB2; have v0 := b2.cell 0; have v1 := b2.cell 1; simp at v0 v1) | (go_at_call 100; refine RD.mono ?_; clear RD; rintro en V3 ⟨rfl, hB3⟩; obtain ⟨c1, c2, c3, EN⟩ := F3.out _ V3 b1 b2 hB3; have w0 := c2.cell 0; have w1 := c2.cell 1; simp at w0 w1) | (go_at_call 36; refine (PL2 _).mono ?_; rintro en V4 ⟨rfl, hB4⟩; have EN4 := EN V4 hB4) | (go_at_call 143; refine EN4.mono ?_; clear EN4; rintro en V5 ⟨rfl, hB5⟩; obtain ⟨d1, d2, d3⟩ := F5.out _ _ V5 c1 c2 hB4 hB5; have y0 := d2.cell 0; have y1 := d2.cell 1; simp at y0 y1) | fail)
    refine (PL2 _).mono ?_
    rintro en V6 ⟨rfl, hB6⟩
    have k6 := d3.on hB6
    have q4 := k6.cell 4
    have q5 := k6.cell 5
    have f4 := k6.frozen 4
    have f5 := k6.frozen 5
    simp at q4 q5
    have HK : Hid (Kee wb w ((V6.setCell ⟨wb, 4, none⟩ (.int .i64 (r.i : Nat))).setCell ⟨wb, 5, none⟩ (.int .i64 (r.k : Nat))) /\ Wk ((V6.setCell ⟨wb, 4, none⟩ (.int .i64 (r.i : Nat))).setCell ⟨wb, 5, none⟩ (.int .i64 (r.k : Nat))) wb E { s with p := r } ov tv) := ⟨(Kee.of (d1.trans (hB6.mono d1.size))).trans (k6.keeP r), k6.setP r⟩
    clear k6 d3
    go_wp2
    go_ret2
    exact ⟨HK.out.1, rfl, HK.out.2⟩
 ·rw [if_pos (.inl e1)]
  rw [decide_eq_false e1] at hse
  clear e1 PL2
  go_enter Tryz.func99, Tryz.ntmps99
  go_wp2_with (first | (go_at_call 36; refine (PL1 _).mono ?_; clear PL1; rintro en V1 ⟨rfl, hB1⟩; obtain ⟨a1, a2, RS⟩ := F1.out V1 hB1; have u0 := a2.cell 0; have u1 := a2.cell 1; simp at u0 u1) | (go_at_call 54; refine RS.mono ?_; clear RS; rintro en V2 ⟨rfl, hB2⟩; obtain ⟨b1, b2, RD⟩ := F2.out _ V2 a1 a2 hB2; have v0 := b2.cell 0; have v1 := b2.cell 1; simp at v0 v1) | (go_at_call 100; refine RD.mono ?_; clear RD; rintro en V3 ⟨rfl, hB3⟩; obtain ⟨c1, c2, c3, EN⟩ := F3.out _ V3 b1 b2 hB3; have w0 := c2.cell 0; have w1 := c2.cell 1; simp at w0 w1))
  go_ret2
  exact ⟨Kee.of c1, rfl⟩
theorem name101_any {w : World} {wb : Nat} {E : Env} {s : St} {ov tv : Value} {O : Orc} {rd : List Int -> ByteArray × Nat × Bool} (LO : LowC O) (LR : Reads 101 rd) (hrd : ∀ t, (rd t).2.1 <= t.length) (h : Wk w wb E s ov tv) (hf : Fine E) (had : ByteArray) (ah : Nat) (hp : Okp E (s.p.plus ah)) (hah : ah <= 1) :
  Calls Tryz.prog 99 #[.pointer (some ⟨wb, 0, none⟩), .string had, .int .i64 (ah : Nat), .func (.func 101) #[] #[]] w fun en w' => Kee wb w w' /\ match namW O E.L rd had ah s.p with
   | .ok (nm, r) => en = .returned (.tuple #[.string nm, .int .i64 0]) /\ Wk w' wb E { s with p := r } ov tv
   | .error c => en = .returned (.tuple #[.string ⟨#[]⟩, .int .i64 2]) := by
 have hpk : (s.p.k : Int) + (ah : Nat) <= 9223372036854775807 := by
  have := hp.lek hf
  simp only [Pl.plus] at this
  omega
 have c4 := h.cell 4
 have c5 := h.cell 5
 simp at c4 c5
 obtain ⟨fr, hfr⟩ : ∃ fr, s.p.plus ah = fr := ⟨_, rfl⟩
 have PL1 : ∀ W : World, Calls Tryz.prog 36 #[.agg #[.int .i64 (s.p.i : Nat), .int .i64 (s.p.k : Nat)], .int .i64 (ah : Nat)] W fun en w' => en = .returned fr.v /\ Below W.heap.size W w' := fun W => by rw [<- hfr]; exact plus_any s.p ah W hpk
 rw [hfr] at hp
 unfold namW
 rw [hfr]
 obtain ⟨hI, hl1, hl2, hl3, hl4⟩ := rest_is h.lin hf hp
 have hl5 := rest_small hf hp
 obtain ⟨R, hR⟩ : ∃ R, rd (rst E.L fr) = R := ⟨_, rfl⟩
 have hRl := hrd (rst E.L fr)
 rw [hR] at hRl |-
 obtain ⟨nm, sz, right⟩ := R
 dsimp only at hRl |-
 have hp2 : Okp E (fr.plus sz) := hp.more hRl
 have hfk := hp.lek hf
 obtain ⟨r, hr⟩ : ∃ r, fr.plus sz = r := ⟨_, rfl⟩
 have PL2 : ∀ W : World, Calls Tryz.prog 36 #[.agg #[.int .i64 (fr.i : Nat), .int .i64 (fr.k : Nat)], .int .i64 (sz : Nat)] W fun en w' => en = .returned r.v /\ Below W.heap.size W w' := fun W => by rw [<- hr]; exact plus_any fr sz W (by omega)
 rw [hr] at hp2 |-
 have F1 : Hid (∀ V1, Below w.heap.size w V1 -> Below w.heap.size w (V1.alloc (.cells #[.int .i64 (fr.i : Nat), .int .i64 (fr.k : Nat)] 60)) /\ Bx (V1.alloc (.cells #[.int .i64 (fr.i : Nat), .int .i64 (fr.k : Nat)] 60)) V1.heap.size (fr.i : Nat) (fr.k : Nat) /\ Calls Tryz.prog 54 #[.pointer (some ⟨wb, 0, none⟩), fr.v] (V1.alloc (.cells #[.int .i64 (fr.i : Nat), .int .i64 (fr.k : Nat)] 60)) fun en w' => en = .returned (.slice (rq E fr) (rst E.L fr).length (rc E fr)) /\ Below (V1.alloc (.cells #[.int .i64 (fr.i : Nat), .int .i64 (fr.k : Nat)] 60)).heap.size (V1.alloc (.cells #[.int .i64 (fr.i : Nat), .int .i64 (fr.k : Nat)] 60)) w') := fun V1 hB => by
  have a1 := hB.alloc hB.size (.cells #[.int .i64 (fr.i : Nat), .int .i64 (fr.k : Nat)] 60)
  exact ⟨a1, Bx.new _ _ _, rest_any (h.on a1) hf hp⟩
 have F2 : Hid (∀ (A V2 : World) {b : Nat}, Below w.heap.size w A -> Bx A b (fr.i : Nat) (fr.k : Nat) -> Below A.heap.size A V2 -> Below w.heap.size w V2 /\ Bx V2 b (fr.i : Nat) (fr.k : Nat) /\ Calls Tryz.prog 101 #[.slice (rq E fr) (rst E.L fr).length (rc E fr)] V2 fun en w' => en = .returned (.tuple #[.string nm, .int .i64 (sz : Nat), .bool right]) /\ Below V2.heap.size V2 w') := fun A V2 b hA hb hB => by
  have a1 := hA.trans (hB.mono hA.size)
  refine ⟨a1, hb.on hB, ?_⟩
  have := LR (rq E fr) (rst E.L fr) (rc E fr) V2 hl5 hl1 hl2 (hI.on a1)
  rw [hR] at this
  exact this
 have F3 : Hid (∀ (A V3 : World) {b : Nat}, Below w.heap.size w A -> Bx A b (fr.i : Nat) (fr.k : Nat) -> Below A.heap.size A V3 -> Below w.heap.size w V3 /\ Bx V3 b (fr.i : Nat) (fr.k : Nat) /\ Wk V3 wb E s ov tv /\ ∀ V4, Below V3.heap.size V3 V4 -> Calls Tryz.prog 143 #[.pointer (some ⟨wb, 0, none⟩), r.v] V4 fun en w' => en = .returned (.bool (endW O E.L r)) /\ Below V4.heap.size V4 w') := fun A V3 b hA hb hB => by
  have a1 := hA.trans (hB.mono hA.size)
  exact ⟨a1, hb.on hB, h.on a1, fun V4 hV => endsName_any LO (h.on (a1.trans (hV.mono a1.size))) hf hp2⟩
 have F5 : Hid (∀ (A V4 V5 : World) {b : Nat}, Below w.heap.size w A -> Bx A b (fr.i : Nat) (fr.k : Nat) -> Below A.heap.size A V4 -> Below V4.heap.size V4 V5 -> Below w.heap.size w V5 /\ Bx V5 b (fr.i : Nat) (fr.k : Nat) /\ Wk V5 wb E s ov tv) := fun A V4 V5 b hA hb h4 h5 => by
  have a0 := h4.trans (h5.mono h4.size)
  have a1 := hA.trans (a0.mono hA.size)
  exact ⟨a1, hb.on a0, h.on a1⟩
 have hsz : (sz : Int) <= 1048576 := by omega
 have hse := str_isE had
 clear h hI hR hrd hfr hr LO LR hl1 hl2 hl4 hp hp2
 generalize (rst E.L fr).length = tl at *
 generalize rq E fr = rqv at *
 generalize rc E fr = rcv at *
 by_cases e1 : had.size = 0
 ·rw [decide_eq_true e1] at hse
  cases right with
  | false =>
   rw [if_pos (.inr (.inl rfl))]
   clear e1 PL2
   go_enter Tryz.func99, Tryz.ntmps99
   go_wp2_with (first | (go_at_call 36; refine (PL1 _).mono ?_; clear PL1; rintro en V1 ⟨rfl, hB1⟩; obtain ⟨a1, a2, RS⟩ := F1.out V1 hB1; have u0 := a2.cell 0; have u1 := a2.cell 1; simp at u0 u1) | (go_at_call 54; refine RS.mono ?_; clear RS; rintro en V2 ⟨rfl, hB2⟩; obtain ⟨b1, b2, RD⟩ := F2.out _ V2 a1 a2 hB2; have v0 := b2.cell 0; have v1 := b2.cell 1; simp at v0 v1) | (go_at_call 101; refine RD.mono ?_; clear RD; rintro en V3 ⟨rfl, hB3⟩; obtain ⟨c1, c2, c3, EN⟩ := F3.out _ V3 b1 b2 hB3; have w0 := c2.cell 0; have w1 := c2.cell 1; simp at w0 w1))
   go_ret2
   exact ⟨Kee.of c1, rfl⟩
  | true =>
   cases hen : endW O E.L r with
   | false =>
    rw [if_pos (.inr (.inr rfl))]
    rw [hen] at F3
    clear e1 hen
    go_enter Tryz.func99, Tryz.ntmps99
    go_wp2_with (first | (go_at_call 36; refine (PL1 _).mono ?_; clear PL1; rintro en V1 ⟨rfl, hB1⟩; obtain ⟨a1, a2, RS⟩ := F1.out V1 hB1; have u0 := a2.cell 0; have u1 := a2.cell 1; simp at u0 u1) | (go_at_call 54; refine RS.mono ?_; clear RS; rintro en V2 ⟨rfl, hB2⟩; obtain ⟨b1, b2, RD⟩ := F2.out _ V2 a1 a2 hB2; have v0 := b2.cell 0; have v1 := b2.cell 1; simp at v0 v1) | (go_at_call 101; refine RD.mono ?_; clear RD; rintro en V3 ⟨rfl, hB3⟩; obtain ⟨c1, c2, c3, EN⟩ := F3.out _ V3 b1 b2 hB3; have w0 := c2.cell 0; have w1 := c2.cell 1; simp at w0 w1) | (go_at_call 36; refine (PL2 _).mono ?_; rintro en V4 ⟨rfl, hB4⟩; have EN4 := EN V4 hB4) | (go_at_call 143; refine EN4.mono ?_; clear EN4; rintro en V5 ⟨rfl, hB5⟩; obtain ⟨d1, d2, d3⟩ := F5.out _ _ V5 c1 c2 hB4 hB5; have y0 := d2.cell 0; have y1 := d2.cell 1; simp at y0 y1))
    go_ret2
    exact ⟨Kee.of d1, rfl⟩
   | true =>
    rw [if_neg (by rintro (h | h | h); exact h e1; cases h; cases h)]
    rw [hen] at F3
    clear e1 hen
    go_enter Tryz.func99, Tryz.ntmps99
    go_wp2_with (first | (go_at_call 36; refine (PL1 _).mono ?_; clear PL1; rintro en V1 ⟨rfl, hB1⟩; obtain ⟨a1, a2, RS⟩ := F1.out V1 hB1; have u0 := a2.cell 0; have u1 := a2.cell 1; simp at u0 u1) | (go_at_call 54; refine RS.mono ?_; clear RS; rintro en V2 ⟨rfl, hB2⟩; obtain ⟨b1, b2, RD⟩ := F2.out _ V2 a1 a2 hB2; have v0 := b2.cell 0; have v1 := b2.cell 1; simp at v0 v1) | (go_at_call 101; refine RD.mono ?_; clear RD; rintro en V3 ⟨rfl, hB3⟩; obtain ⟨c1, c2, c3, EN⟩ := F3.out _ V3 b1 b2 hB3; have w0 := c2.cell 0; have w1 := c2.cell 1; simp at w0 w1) | (go_at_call 36; refine (PL2 _).mono ?_; rintro en V4 ⟨rfl, hB4⟩; have EN4 := EN V4 hB4) | (go_at_call 143; refine EN4.mono ?_; clear EN4; rintro en V5 ⟨rfl, hB5⟩; obtain ⟨d1, d2, d3⟩ := F5.out _ _ V5 c1 c2 hB4 hB5; have y0 := d2.cell 0; have y1 := d2.cell 1; simp at y0 y1) | fail)
    refine (PL2 _).mono ?_
    rintro en V6 ⟨rfl, hB6⟩
    have k6 := d3.on hB6
    have q4 := k6.cell 4
    have q5 := k6.cell 5
    have f4 := k6.frozen 4
    have f5 := k6.frozen 5
    simp at q4 q5
    have HK : Hid (Kee wb w ((V6.setCell ⟨wb, 4, none⟩ (.int .i64 (r.i : Nat))).setCell ⟨wb, 5, none⟩ (.int .i64 (r.k : Nat))) /\ Wk ((V6.setCell ⟨wb, 4, none⟩ (.int .i64 (r.i : Nat))).setCell ⟨wb, 5, none⟩ (.int .i64 (r.k : Nat))) wb E { s with p := r } ov tv) := ⟨(Kee.of (d1.trans (hB6.mono d1.size))).trans (k6.keeP r), k6.setP r⟩
    clear k6 d3
    go_wp2
    go_ret2
    exact ⟨HK.out.1, rfl, HK.out.2⟩
 ·rw [if_pos (.inl e1)]
  rw [decide_eq_false e1] at hse
  clear e1 PL2
  go_enter Tryz.func99, Tryz.ntmps99
  go_wp2_with (first | (go_at_call 36; refine (PL1 _).mono ?_; clear PL1; rintro en V1 ⟨rfl, hB1⟩; obtain ⟨a1, a2, RS⟩ := F1.out V1 hB1; have u0 := a2.cell 0; have u1 := a2.cell 1; simp at u0 u1) | (go_at_call 54; refine RS.mono ?_; clear RS; rintro en V2 ⟨rfl, hB2⟩; obtain ⟨b1, b2, RD⟩ := F2.out _ V2 a1 a2 hB2; have v0 := b2.cell 0; have v1 := b2.cell 1; simp at v0 v1) | (go_at_call 101; refine RD.mono ?_; clear RD; rintro en V3 ⟨rfl, hB3⟩; obtain ⟨c1, c2, c3, EN⟩ := F3.out _ V3 b1 b2 hB3; have w0 := c2.cell 0; have w1 := c2.cell 1; simp at w0 w1))
  go_ret2
  exact ⟨Kee.of c1, rfl⟩
structure LowN (O : Orc) : Prop where
 anchor : Reads 100 O.anchor
 tag : Reads 101 O.tag
 anchor_ne : ∀ t, (O.anchor t).2.2 = true -> (O.anchor t).1.size ≠ 0
 tag_ne : ∀ t, (O.tag t).2.2 = true -> (O.tag t).1.size ≠ 0
def cntH (x : Hs) : Nat := (if x.an.size = 0 then 1 else 0) + (if x.tg.size = 0 then 1 else 0)
def hsM (w : World) (b : Nat) : Nat := match w.cell? ⟨b, 0, none⟩, w.cell? ⟨b, 1, none⟩ with
 | some (.string a), some (.string t) => (if a.size = 0 then 1 else 0) + (if t.size = 0 then 1 else 0)
 | _, _ => 0
theorem hsM_of {w : World} {b : Nat} {x : Hs} (h : Bh w b x) : hsM w b = cntH x := by
 have h0 := h.cell 0
 have h1 := h.cell 1
 simp at h0 h1
 simp [hsM, h0, h1, cntH]
theorem Bh.frozen {w : World} {b : Nat} {x : Hs} (h : Bh w b x) (o : Nat) : w.frozen? ⟨b, o, none⟩ = false := by simp [World.frozen?, show w.heap[b]? = _ from h]
theorem Bh.set0 {w : World} {b : Nat} {x : Hs} (h : Bh w b x) (v : ByteArray) : Bh (w.setCell ⟨b, 0, none⟩ (.string v)) b { x with an := v } := by
 unfold Bh at *
 simp only [World.setCell, Array.getElem?_modify, h, if_true, Option.map_some]
 rfl
theorem Bh.set1 {w : World} {b : Nat} {x : Hs} (h : Bh w b x) (v : ByteArray) : Bh (w.setCell ⟨b, 1, none⟩ (.string v)) b { x with tg := v } := by
 unfold Bh at *
 simp only [World.setCell, Array.getElem?_modify, h, if_true, Option.map_some]
 rfl
theorem Bh.set2 {w : World} {b : Nat} {x : Hs} (h : Bh w b x) (v : Nat) : Bh (w.setCell ⟨b, 2, none⟩ (.int .i64 (v : Nat))) b { x with bi := v } := by
 unfold Bh at *
 simp only [World.setCell, Array.getElem?_modify, h, if_true, Option.map_some]
 rfl
theorem Bh.set3 {w : World} {b : Nat} {x : Hs} (h : Bh w b x) (v : Nat) : Bh (w.setCell ⟨b, 3, none⟩ (.int .i64 (v : Nat))) b { x with bk := v } := by
 unfold Bh at *
 simp only [World.setCell, Array.getElem?_modify, h, if_true, Option.map_some]
 rfl
theorem Bh.other {w : World} {b g o : Nat} {x : Hs} (h : Bh w b x) (v : Value) (hg : b ≠ g) : Bh (w.setCell ⟨g, o, none⟩ v) b x := (Below.heap_setCell _ _ _ _ hg).trans h
theorem Bh.put {w : World} {b : Nat} {x : Hs} (h : Bh w b x) (y : Hs) : Bh ((((w.setCell ⟨b, 0, none⟩ (.string y.an)).setCell ⟨b, 1, none⟩ (.string y.tg)).setCell ⟨b, 2, none⟩ (.int .i64 (y.bi : Nat))).setCell ⟨b, 3, none⟩ (.int .i64 (y.bk : Nat))) b y := (((h.set0 y.an).set1 y.tg).set2 y.bi).set3 y.bk
theorem results_pr {fn : Func} {r s t : Tmp} (h : fn.results = #[.cell r 125, .tmp s, .tmp t]) {tmps : Array Value} {W : World} {b : Nat} {x : Hs} {v u : Value} (h1 : tmps.getD r undef = .pointer (some ⟨b, 0, none⟩)) (h2 : tmps.getD s undef = v) (h3 : tmps.getD t undef = u)
  (hb : Bh W b x) : (results fn tmps).run Tryz.prog W = .ok (.tuple #[x.v, v, u]) W := by
 have h1' : tmps[r]?.getD undef = .pointer (some ⟨b, 0, none⟩) := by simpa using h1
 have h2' : tmps[s]?.getD undef = v := by simpa using h2
 have h3' : tmps[t]?.getD undef = u := by simpa using h3
 have c0 := hb.cell 0
 have c1 := hb.cell 1
 have c2 := hb.cell 2
 have c3 := hb.cell 3
 simp at c0 c1 c2 c3
 simp [results, h, h1', h2', h3', asAddr, go_sem, c0, c1, c2, c3]
theorem Wk.far {w : World} {wb : Nat} {E : Env} {s : St} {ov tv : Value} (h : Wk w wb E s ov tv) {b : Nat} {x : Hs} (hb : Bh w b x) (hw : wb < b) (o : Nat) (v : Value) : Wk (w.setCell ⟨b, o, none⟩ v) wb E s ov tv := by
 have ne : ∀ {e k n : Nat} {u : Value} {xs : List Value}, e ≠ 125 -> w.ownsRow (wb + 1) e k u n xs -> (w.setCell ⟨b, o, none⟩ v).ownsRow (wb + 1) e k u n xs := fun he hr => row_same hr fun g hg => by
  obtain ⟨-, cur, h2⟩ := row_type hr hg
  refine Below.heap_setCell _ _ _ _ (fun e2 => ?_)
  dsimp only at e2
  rw [e2, show w.heap[b]? = _ from hb] at h2
  cases h2
  exact he rfl
 exact ⟨(Below.heap_setCell _ _ _ _ (show wb ≠ b by omega)).trans h.blk, h.lin.on ((Below.refl wb w).setCell (p := ⟨b, o, none⟩) (show wb <= b by omega) _), ne (by decide) h.op, ne (by decide) h.to⟩
theorem rst_of_next {O : Orc} {E : Env} {n : Int} : ∀ (f : Nat) (q r : Pl) (b : Bool), nexF O E.L n f q b = .ok (some r) -> Okp E q -> 0 < (rst E.L r).length /\ Okp E r
 | 0, q, r, b, h, hq => by cases h
 | f + 1, q, r, b, h, hq => by
  rw [nexF] at h
  split at h
  ·cases h
  ·rename_i x hx
   split at h
   ·cases h
   ·split at h
    ·rename_i h1 h2
     by_cases hlt : q.i + 1 < E.M.length
     ·exact rst_of_next f _ r _ h ⟨_, List.getElem?_eq_getElem hlt, Nat.zero_le _⟩
     ·cases f with
      | zero => cases h
      | succ f =>
       rw [nexF] at h
       have : E.L[q.i + 1]? = none := List.getElem?_eq_none (by rw [Env.len]; omega)
       dsimp only at h
       rw [this] at h
       cases h
    ·split at h
     ·cases h
     ·rename_i h1 h2 h3
      cases h
      refine ⟨?_, hq.past⟩
      rcases Nat.eq_zero_or_pos (rst E.L (pasW O E.L q)).length with h0 | h0
      ·exact absurd (by unfold linW; rw [decide_eq_true h0]; rfl) h2
      ·exact h0
theorem Kee.new {wb : Nat} {w V : World} (h : Kee wb w V) {b o : Nat} (hb : w.heap.size <= b) (v : Value) : Kee wb w (V.setCell ⟨b, o, none⟩ v) :=
 ⟨h.os, h.tape, h.output, by simp [World.setCell]; exact h.size, fun k ob hk hm => (Below.heap_setCell _ _ _ _ (show k ≠ b by have := (Array.getElem?_eq_some_iff.1 hk).1; omega)).trans (h.keep k ob hk hm)⟩
structure Pw (w V : World) (wb : Nat) (E : Env) (s : St) (ov tv : Value) (x : Hs) (p : Pl) : Prop where
 b5 : Bh V (w.heap.size + 1) x
 b2 : Bh V w.heap.size hs0
 wk : Wk V wb E { s with p := p } ov tv
 ke : Kee wb w V
theorem Pw.on {w V V' : World} {wb : Nat} {E : Env} {s : St} {ov tv : Value} {x : Hs} {p : Pl} (h : Pw w V wb E s ov tv x p) (hb : Below V.heap.size V V') : Pw w V' wb E s ov tv x p := ⟨h.b5.on hb, h.b2.on hb, h.wk.on hb, h.ke.trans (Kee.of hb)⟩
theorem Pw.answer {w V : World} {wb : Nat} {E : Env} {s : St} {ov tv : Value} {x : Hs} {p : Pl} (h : Pw w V wb E s ov tv x p) (hw : wb < w.heap.size) (y : Hs) : Bh ((((V.setCell ⟨w.heap.size, 0, none⟩ (.string y.an)).setCell ⟨w.heap.size, 1, none⟩ (.string y.tg)).setCell ⟨w.heap.size, 2, none⟩ (.int .i64 (y.bi : Nat))).setCell ⟨w.heap.size, 3, none⟩ (.int .i64 (y.bk : Nat))) w.heap.size y /\ Wk ((((V.setCell ⟨w.heap.size, 0, none⟩ (.string y.an)).setCell ⟨w.heap.size, 1, none⟩ (.string y.tg)).setCell ⟨w.heap.size, 2, none⟩ (.int .i64 (y.bi : Nat))).setCell ⟨w.heap.size, 3, none⟩ (.int .i64 (y.bk : Nat))) wb E { s with p := p } ov tv /\ Kee wb w ((((V.setCell ⟨w.heap.size, 0, none⟩ (.string y.an)).setCell ⟨w.heap.size, 1, none⟩ (.string y.tg)).setCell ⟨w.heap.size, 2, none⟩ (.int .i64 (y.bi : Nat))).setCell ⟨w.heap.size, 3, none⟩ (.int .i64 (y.bk : Nat))) := by
 refine ⟨h.b2.put y, ?_, (((h.ke.new (Nat.le_refl _) _).new (Nat.le_refl _) _).new (Nat.le_refl _) _).new (Nat.le_refl _) _⟩
 have a0 := h.b2.set0 y.an
 have a1 := a0.set1 y.tg
 have a2 := a1.set2 y.bi
 exact (((h.wk.far h.b2 hw 0 _).far a0 hw 1 _).far a1 hw 2 _).far a2 hw 3 _
theorem Pw.goto {w V : World} {wb : Nat} {E : Env} {s : St} {ov tv : Value} {x : Hs} {p : Pl} (h : Pw w V wb E s ov tv x p) (hw : wb < w.heap.size) (q : Pl) : Pw w ((V.setCell ⟨wb, 4, none⟩ (.int .i64 (q.i : Nat))).setCell ⟨wb, 5, none⟩ (.int .i64 (q.k : Nat))) wb E s ov tv x q :=
 ⟨(h.b5.other _ (by omega)).other _ (by omega), (h.b2.other _ (by omega)).other _ (by omega), h.wk.setP q, h.ke.trans (h.wk.keeP q)⟩
theorem Pw.set0 {w V : World} {wb : Nat} {E : Env} {s : St} {ov tv : Value} {x : Hs} {p : Pl} (h : Pw w V wb E s ov tv x p) (hw : wb < w.heap.size) (v : ByteArray) : Pw w (V.setCell ⟨w.heap.size + 1, 0, none⟩ (.string v)) wb E s ov tv { x with an := v } p :=
 ⟨h.b5.set0 v, h.b2.other _ (by omega), h.wk.far h.b5 (by omega) _ _, h.ke.new (Nat.le_succ _) _⟩
theorem Pw.set1 {w V : World} {wb : Nat} {E : Env} {s : St} {ov tv : Value} {x : Hs} {p : Pl} (h : Pw w V wb E s ov tv x p) (hw : wb < w.heap.size) (v : ByteArray) : Pw w (V.setCell ⟨w.heap.size + 1, 1, none⟩ (.string v)) wb E s ov tv { x with tg := v } p :=
 ⟨h.b5.set1 v, h.b2.other _ (by omega), h.wk.far h.b5 (by omega) _ _, h.ke.new (Nat.le_succ _) _⟩
theorem Pw.set23 {w V : World} {wb : Nat} {E : Env} {s : St} {ov tv : Value} {x : Hs} {p : Pl} (h : Pw w V wb E s ov tv x p) (hw : wb < w.heap.size) (i k : Nat) : Pw w ((V.setCell ⟨w.heap.size + 1, 2, none⟩ (.int .i64 (i : Nat))).setCell ⟨w.heap.size + 1, 3, none⟩ (.int .i64 (k : Nat))) wb E s ov tv { x with bi := i, bk := k } p :=
 ⟨(h.b5.set2 i).set3 k, (h.b2.other _ (by omega)).other _ (by omega), (h.wk.far h.b5 (by omega) _ _).far (h.b5.set2 i) (by omega) _ _, (h.ke.new (Nat.le_succ _) _).new (Nat.le_succ _) _⟩
theorem properties_any {w : World} {wb : Nat} {E : Env} {s : St} {ov tv : Value} {O : Orc} (LO : LowC O) (LL : LowL O) (LN : LowN O) (h : Wk w wb E s ov tv) (hf : Fine E) (hp : Okp E s.p) :
  Calls Tryz.prog 66 #[.pointer (some ⟨wb, 0, none⟩)] w fun en w' => Kee wb w w' /\ match proF O E.L E.n 3 s.p hs0 with
   | .ok (x, st, p) => en = .returned (.tuple #[x.v, .bool st, .int .i64 0]) /\ Wk w' wb E { s with p := p } ov tv
   | .error c => (∃ x : Hs, en = .returned (.tuple #[x.v, .bool false, .int .i64 c])) /\ c ≠ 0 := by
 obtain ⟨R, hR⟩ : ∃ R, proF O E.L E.n 3 s.p hs0 = R := ⟨_, rfl⟩
 rw [hR]
 have hwl := h.lt
 have k1 := below_alloc w (.cells #[.string ⟨#[]⟩, .string ⟨#[]⟩, .int .i64 0, .int .i64 0] 125)
 have k2 := k1.alloc (by simp) (.cells #[.string ⟨#[]⟩, .string ⟨#[]⟩, .int .i64 0, .int .i64 0] 125)
 have P0 : Hid (Pw w ((w.alloc (.cells #[.string ⟨#[]⟩, .string ⟨#[]⟩, .int .i64 0, .int .i64 0] 125)).alloc (.cells #[.string ⟨#[]⟩, .string ⟨#[]⟩, .int .i64 0, .int .i64 0] 125)) wb E s ov tv hs0 s.p) := by
  refine ⟨?_, (Bh.new w hs0).on (below_alloc _ _), h.on k2, Kee.of k2⟩
  have := Bh.new (w.alloc (.cells #[.string ⟨#[]⟩, .string ⟨#[]⟩, .int .i64 0, .int .i64 0] 125)) hs0
  rw [World.size_alloc] at this
  exact this
 have HR : Hid (proF O E.L E.n (cntH hs0 + 1) s.p hs0 = R) := hR
 have HP : Hid (Okp E s.p) := hp
 clear h hR hp k1 k2
 go_enter Tryz.func66, Tryz.ntmps66
 go_wp2
 go_loopw [8] (fun _ wr => ∃ (x : Hs) (p : Pl), Hid (Okp E p /\ Pw w wr wb E s ov tv x p /\ proF O E.L E.n (cntH x + 1) p x = R)) (fun _ wr => hsM wr (w.heap.size + 1))
 case atStart => exact ⟨hs0, s.p, HP.out, P0.out, HR.out⟩
 case round =>
  obtain ⟨x, p, HI⟩ := hrel
  obtain ⟨hpo, hpw, hpr⟩ := HI.out
  clear HP P0 HR
  have HM : Hid (hsM wr (w.heap.size + 1) = cntH x) := hsM_of hpw.b5
  have NX := next_any LO LL hpw.wk hf hpo
  have c4 := hpw.wk.cell 4
  have c5 := hpw.wk.cell 5
  simp at c4 c5
  rw [proF] at hpr
  have FV : Hid (∀ (V : World) (o : Obj), Below wr.heap.size wr V -> Pw w (V.alloc o) wb E s ov tv x p) := fun V o hB => hpw.on (hB.alloc hB.size o)
  cases hn : nexW O E.L E.n p with
  | error c =>
   rw [hn] at NX hpr
   have h7 := nex_err hn
   subst h7
   dsimp only at hpr
   subst hpr
   simp only [nexV] at NX
   clear hpw HI hn
   go_wp2_with (first | (go_at_call 98; refine NX.mono ?_; clear NX; rintro en V1 ⟨rfl, hB1⟩; have g1 := FV.out V1 (.cells #[.int .i64 0, .int .i64 0] 60) hB1; have u0 := g1.b5.cell 0; have u1 := g1.b5.cell 1; have u2 := g1.b5.cell 2; have u3 := g1.b5.cell 3; have z0 := g1.b2.cell 0; have z1 := g1.b2.cell 1; have z2 := g1.b2.cell 2; have z3 := g1.b2.cell 3; have f0 := g1.b2.frozen 0; have f1 := g1.b2.frozen 1; have f2 := g1.b2.frozen 2; have f3 := g1.b2.frozen 3; simp at u0 u1 u2 u3 z0 z1 z2 z3; have HA : Hid _ := g1.answer hwl x; clear g1))
   refine bodyPost_ret (results_pr rfl rfl rfl rfl HA.out.1) rfl ?_
   first | exact ⟨HA.out.2.2, ⟨x, rfl⟩, by decide⟩ | exact ⟨HA.out.2.2, x, rfl⟩
  | ok oq =>
   cases oq with
   | none =>
    rw [hn] at NX hpr
    dsimp only at hpr
    subst hpr
    simp only [nexV] at NX
    clear hpw HI hn
    go_wp2_with (first | (go_at_call 98; refine NX.mono ?_; clear NX; rintro en V1 ⟨rfl, hB1⟩; have g1 := FV.out V1 (.cells #[.int .i64 0, .int .i64 0] 60) hB1; have u0 := g1.b5.cell 0; have u1 := g1.b5.cell 1; have u2 := g1.b5.cell 2; have u3 := g1.b5.cell 3; have z0 := g1.b2.cell 0; have z1 := g1.b2.cell 1; have z2 := g1.b2.cell 2; have z3 := g1.b2.cell 3; have f0 := g1.b2.frozen 0; have f1 := g1.b2.frozen 1; have f2 := g1.b2.frozen 2; have f3 := g1.b2.frozen 3; simp at u0 u1 u2 u3 z0 z1 z2 z3; have HA : Hid _ := g1.answer hwl x; clear g1))
    refine bodyPost_ret (results_pr rfl rfl rfl rfl HA.out.1) rfl ⟨HA.out.2.2, rfl, HA.out.2.1⟩
   | some q =>
    rw [hn] at NX hpr
    simp only [nexV] at NX
    obtain ⟨hq0, hqo⟩ := rst_of_next _ _ _ _ hn hpo
    dsimp only at hpr
    have hws : w.heap.size <= wr.heap.size := hpw.ke.size
    have RS : Hid (∀ V2 : World, Wk V2 wb E { s with p := q } ov tv -> Calls Tryz.prog 54 #[.pointer (some ⟨wb, 0, none⟩), q.v] V2 fun en w' => en = .returned (.slice (rq E q) (rst E.L q).length (rc E q)) /\ Below V2.heap.size V2 w') := fun V2 hk => rest_any hk hf hqo
    obtain ⟨hl1, hl2, hl3, hl4, hl5⟩ := rest_is hpw.wk.lin hf hqo
    have hHd : ∃ b o, rq E q = some ⟨b, o, none⟩ /\ ∀ V : World, Wk V wb E { s with p := q } ov tv -> V.cell? ⟨b, o, none⟩ = some (.int .i64 (hd E.L q)) := by
     obtain ⟨b, o, e1, -⟩ := head_at hpw.wk.lin hf hqo hq0
     refine ⟨b, o, e1, fun V hV => ?_⟩
     obtain ⟨b', o', e1', e2'⟩ := head_at hV.lin hf hqo hq0
     rw [e1] at e1'
     cases e1'
     exact e2' V (Below.refl _ _)
    obtain ⟨hb, ho, hrq, hH⟩ := hHd
    rw [hrq] at RS
    have HH : Hid _ := hH
    have hlen : (0 : Int) < ((rst E.L q).length : Int) := by omega
    have hlen2 : ((rst E.L q).length : Int) <= 1048576 := by omega
    clear hl1 hl2 hl5 hH hrq
    by_cases h38 : hd E.L q = 38
    ·rw [if_pos h38] at hpr
     rw [h38] at HH
     have hq1 : Okp E (q.plus 1) := hqo.more (by omega)
     have NMF : Hid (∀ V2 : World, Wk V2 wb E { s with p := q } ov tv -> Calls Tryz.prog 99 #[.pointer (some ⟨wb, 0, none⟩), .string x.an, .int .i64 1, .func (.func 100) #[] #[]] V2 fun en w' => Kee wb V2 w' /\ match namW O E.L O.anchor x.an 1 q with
      | .ok (nm, r) => en = .returned (.tuple #[.string nm, .int .i64 0]) /\ Wk w' wb E { s with p := r } ov tv
      | .error c => en = .returned (.tuple #[.string ⟨#[]⟩, .int .i64 2])) := fun V2 hk => name100_any LO LN.anchor O.anchor_le hk hf x.an 1 hq1 (by decide)
     cases hnm : namW O E.L O.anchor x.an 1 q with
     | error c =>
      rw [hnm] at hpr NMF
      dsimp only at hpr
      have hc2 : c = 2 := by unfold namW at hnm; split at hnm <;> cases hnm; rfl
      subst hc2
      subst hpr
      dsimp only at NMF
      clear hpw HI hn hnm
      go_wp2_with (first | (go_at_call 98; refine NX.mono ?_; clear NX; rintro en V1 ⟨rfl, hB1⟩; have g1 := FV.out V1 (.cells #[.int .i64 (q.i : Nat), .int .i64 (q.k : Nat)] 60) hB1; have m0 := (Bx.new V1 (q.i : Nat) (q.k : Nat)).cell 0; have m1 := (Bx.new V1 (q.i : Nat) (q.k : Nat)).cell 1; have d4 := g1.wk.cell 4; have d5 := g1.wk.cell 5; have i4 := g1.wk.frozen 4; have i5 := g1.wk.frozen 5; have g2 := g1.goto hwl q; have hwb1 : V1.heap.size ≠ wb := (by have q1 := g1.ke.size; have q2 := hB1.size; have q3 := hws; omega); have BQ := ((Bx.new V1 (q.i : Nat) (q.k : Nat)).other (g := wb) (o := 4) (.int .i64 (q.i : Nat)) hwb1).other (g := wb) (o := 5) (.int .i64 (q.k : Nat)) hwb1; have n0 := BQ.cell 0; have n1 := BQ.cell 1; simp at m0 m1 d4 d5 n0 n1; have RSB := RS.out _ g2.wk; have HB2 : Hid _ := g2; clear g1 g2 BQ) | (go_at_call 54; refine RSB.mono ?_; clear RSB; rintro en V2 ⟨rfl, hB2⟩; have g2 := HB2.out.on hB2; have hc := HH.out V2 g2.wk; have s0 := g2.b5.cell 0; have s1 := g2.b5.cell 1; have s2 := g2.b5.cell 2; have s3 := g2.b5.cell 3; have r0 := g2.b2.cell 0; have r1 := g2.b2.cell 1; have r2 := g2.b2.cell 2; have r3 := g2.b2.cell 3; have t0 := g2.b2.frozen 0; have t1 := g2.b2.frozen 1; have t2 := g2.b2.frozen 2; have t3 := g2.b2.frozen 3; simp at s0 s1 s2 s3 r0 r1 r2 r3; have HG2 : Hid _ := g2; clear g2) | (go_at_call 99; refine (NMF.out _ HG2.out.wk).mono ?_; clear NMF; rintro en V3 ⟨hk3, rfl⟩; have e5 := HG2.out.b5.kee hk3; have e2 := HG2.out.b2.kee hk3; have ek := HG2.out.ke.trans hk3; have v0 := e5.cell 0; have y0 := e5.frozen 0; have e2' := e2.other (g := w.heap.size + 1) (o := 0) (.string ⟨#[]⟩) (by omega); have r0 := e2'.cell 0; have r1 := e2'.cell 1; have r2 := e2'.cell 2; have r3 := e2'.cell 3; have t0 := e2'.frozen 0; have t1 := e2'.frozen 1; have t2 := e2'.frozen 2; have t3 := e2'.frozen 3; simp at v0 r0 r1 r2 r3; have HE2 : Hid _ := e2'; have HEK : Hid _ := ek; clear e2 e2' e5 ek))
      refine bodyPost_ret (results_pr rfl rfl rfl rfl ((show Bh _ w.heap.size hs0 from HE2.out).put hs0)) rfl ?_
      have kf := ((((HEK.out.new (o := 0) (Nat.le_succ _) (.string ⟨#[]⟩)).new (o := 0) (Nat.le_refl w.heap.size) (.string hs0.an)).new (o := 1) (Nat.le_refl w.heap.size) (.string hs0.tg)).new (o := 2) (Nat.le_refl w.heap.size) (.int .i64 (hs0.bi : Nat))).new (o := 3) (Nat.le_refl w.heap.size) (.int .i64 (hs0.bk : Nat))
      first | exact ⟨kf, ⟨hs0, rfl⟩, by decide⟩ | exact ⟨kf, hs0, rfl⟩
     | ok res =>
      obtain ⟨nm, r⟩ := res
      rw [hnm] at hpr NMF
      dsimp only at hpr NMF
      have hne : nm.size ≠ 0 /\ x.an.size = 0 /\ Okp E r := by
       unfold namW at hnm
       split at hnm
       ·cases hnm
       ·rename_i hno
        cases hnm
        refine ⟨LN.anchor_ne _ ?_, ?_, hq1.more (O.anchor_le _)⟩
        ·cases hb : (O.anchor (rst E.L (q.plus 1))).2.2 with
         | true => rfl
         | false => exact absurd (.inr (.inl hb)) hno
        ·rcases Nat.eq_zero_or_pos x.an.size with h0 | h0
         ·exact h0
         ·exact absurd (.inl (by omega)) hno
      have hcn : cntH x = cntH ⟨nm, x.tg, r.i, r.k⟩ + 1 := by
       unfold cntH
       dsimp only
       rw [if_pos hne.2.1, if_neg hne.1]
       try omega
      rw [hcn] at hpr
      have HPR : Hid (proF O E.L E.n (cntH ⟨nm, x.tg, r.i, r.k⟩ + 1) r ⟨nm, x.tg, r.i, r.k⟩ = R) := hpr
      have HNE : Hid (nm.size ≠ 0 /\ x.an.size = 0 /\ Okp E r) := hne
      have HCN : Hid (cntH x = cntH ⟨nm, x.tg, r.i, r.k⟩ + 1) := hcn
      clear hpw HI hn hnm hpr hne hcn
      go_wp2_with (first | (go_at_call 98; refine NX.mono ?_; clear NX; rintro en V1 ⟨rfl, hB1⟩; have g1 := FV.out V1 (.cells #[.int .i64 (q.i : Nat), .int .i64 (q.k : Nat)] 60) hB1; have m0 := (Bx.new V1 (q.i : Nat) (q.k : Nat)).cell 0; have m1 := (Bx.new V1 (q.i : Nat) (q.k : Nat)).cell 1; have d4 := g1.wk.cell 4; have d5 := g1.wk.cell 5; have i4 := g1.wk.frozen 4; have i5 := g1.wk.frozen 5; have g2 := g1.goto hwl q; have hwb1 : V1.heap.size ≠ wb := (by have q1 := g1.ke.size; have q2 := hB1.size; have q3 := hws; omega); have BQ := ((Bx.new V1 (q.i : Nat) (q.k : Nat)).other (g := wb) (o := 4) (.int .i64 (q.i : Nat)) hwb1).other (g := wb) (o := 5) (.int .i64 (q.k : Nat)) hwb1; have n0 := BQ.cell 0; have n1 := BQ.cell 1; simp at m0 m1 d4 d5 n0 n1; have RSB := RS.out _ g2.wk; have HB2 : Hid _ := g2; clear g1 g2 BQ) | (go_at_call 54; refine RSB.mono ?_; clear RSB; rintro en V2 ⟨rfl, hB2⟩; have g2 := HB2.out.on hB2; have hc := HH.out V2 g2.wk; have s0 := g2.b5.cell 0; have s1 := g2.b5.cell 1; have s2 := g2.b5.cell 2; have s3 := g2.b5.cell 3; have r0 := g2.b2.cell 0; have r1 := g2.b2.cell 1; have r2 := g2.b2.cell 2; have r3 := g2.b2.cell 3; have t0 := g2.b2.frozen 0; have t1 := g2.b2.frozen 1; have t2 := g2.b2.frozen 2; have t3 := g2.b2.frozen 3; simp at s0 s1 s2 s3 r0 r1 r2 r3; have HG2 : Hid _ := g2; clear g2) | (go_at_call 99; refine (NMF.out _ HG2.out.wk).mono ?_; clear NMF; rintro en V3 ⟨hk3, rfl, hw3⟩; have g3 : Pw w V3 wb E s ov tv x r := ⟨HG2.out.b5.kee hk3, HG2.out.b2.kee hk3, hw3, HG2.out.ke.trans hk3⟩; have v0 := g3.b5.cell 0; have y0 := g3.b5.frozen 0; have g4 := g3.set0 hwl nm; have d4 := g4.wk.cell 4; have d5 := g4.wk.cell 5; have e2 := g4.b5.cell 2; have e3 := g4.b5.cell 3; have y2 := g4.b5.frozen 2; have y3 := g4.b5.frozen 3; simp at v0 d4 d5 e2 e3; have HG5 : Hid _ := g4.set23 hwl r.i r.k; clear g3 g4 hw3))
      go_roundw
      case rel => exact ⟨_, r, HNE.out.2.2, HG5.out, HPR.out⟩
      case measure =>
       have m1 := hsM_of HG5.out.b5
       have m2 := HM.out
       have m3 := HCN.out
       rw [m2, m3]
       first | (rw [m1]; omega) | trace_state
    ·rw [if_neg h38] at hpr
     have e38 : (hd E.L q == 38) = false := by rw [beq_eq_false_iff_ne]; exact h38
     by_cases h33 : hd E.L q = 33
     ·rw [if_pos h33] at hpr
      rw [h33] at HH
      have hq1 : Okp E (q.plus 0) := hqo
      have NMF : Hid (∀ V2 : World, Wk V2 wb E { s with p := q } ov tv -> Calls Tryz.prog 99 #[.pointer (some ⟨wb, 0, none⟩), .string x.tg, .int .i64 0, .func (.func 101) #[] #[]] V2 fun en w' => Kee wb V2 w' /\ match namW O E.L O.tag x.tg 0 q with
       | .ok (nm, r) => en = .returned (.tuple #[.string nm, .int .i64 0]) /\ Wk w' wb E { s with p := r } ov tv
       | .error c => en = .returned (.tuple #[.string ⟨#[]⟩, .int .i64 2])) := fun V2 hk => name101_any LO LN.tag O.tag_le hk hf x.tg 0 hq1 (by decide)
      cases hnm : namW O E.L O.tag x.tg 0 q with
      | error c =>
       rw [hnm] at hpr NMF
       dsimp only at hpr
       have hc2 : c = 2 := by unfold namW at hnm; split at hnm <;> cases hnm; rfl
       subst hc2
       subst hpr
       dsimp only at NMF
       clear hpw HI hn hnm
       go_wp2_with (first | (go_at_call 98; refine NX.mono ?_; clear NX; rintro en V1 ⟨rfl, hB1⟩; have g1 := FV.out V1 (.cells #[.int .i64 (q.i : Nat), .int .i64 (q.k : Nat)] 60) hB1; have m0 := (Bx.new V1 (q.i : Nat) (q.k : Nat)).cell 0; have m1 := (Bx.new V1 (q.i : Nat) (q.k : Nat)).cell 1; have d4 := g1.wk.cell 4; have d5 := g1.wk.cell 5; have i4 := g1.wk.frozen 4; have i5 := g1.wk.frozen 5; have g2 := g1.goto hwl q; have hwb1 : V1.heap.size ≠ wb := (by have q1 := g1.ke.size; have q2 := hB1.size; have q3 := hws; omega); have BQ := ((Bx.new V1 (q.i : Nat) (q.k : Nat)).other (g := wb) (o := 4) (.int .i64 (q.i : Nat)) hwb1).other (g := wb) (o := 5) (.int .i64 (q.k : Nat)) hwb1; have n0 := BQ.cell 0; have n1 := BQ.cell 1; simp at m0 m1 d4 d5 n0 n1; have RSB := RS.out _ g2.wk; have HB2 : Hid _ := g2; clear g1 g2 BQ) | (go_at_call 54; refine RSB.mono ?_; clear RSB; rintro en V2 ⟨rfl, hB2⟩; have g2 := HB2.out.on hB2; have hc := HH.out V2 g2.wk; have s0 := g2.b5.cell 0; have s1 := g2.b5.cell 1; have s2 := g2.b5.cell 2; have s3 := g2.b5.cell 3; have r0 := g2.b2.cell 0; have r1 := g2.b2.cell 1; have r2 := g2.b2.cell 2; have r3 := g2.b2.cell 3; have t0 := g2.b2.frozen 0; have t1 := g2.b2.frozen 1; have t2 := g2.b2.frozen 2; have t3 := g2.b2.frozen 3; simp at s0 s1 s2 s3 r0 r1 r2 r3; have HG2 : Hid _ := g2; clear g2) | (go_at_call 99; refine (NMF.out _ HG2.out.wk).mono ?_; clear NMF; rintro en V3 ⟨hk3, rfl⟩; have e5 := HG2.out.b5.kee hk3; have e2 := HG2.out.b2.kee hk3; have ek := HG2.out.ke.trans hk3; have v0 := e5.cell 1; have y0 := e5.frozen 1; have e2' := e2.other (g := w.heap.size + 1) (o := 1) (.string ⟨#[]⟩) (by omega); have r0 := e2'.cell 0; have r1 := e2'.cell 1; have r2 := e2'.cell 2; have r3 := e2'.cell 3; have t0 := e2'.frozen 0; have t1 := e2'.frozen 1; have t2 := e2'.frozen 2; have t3 := e2'.frozen 3; simp at v0 r0 r1 r2 r3; have HE2 : Hid _ := e2'; have HEK : Hid _ := ek; clear e2 e2' e5 ek))
       refine bodyPost_ret (results_pr rfl rfl rfl rfl ((show Bh _ w.heap.size hs0 from HE2.out).put hs0)) rfl ?_
       have kf := ((((HEK.out.new (o := 1) (Nat.le_succ _) (.string ⟨#[]⟩)).new (o := 0) (Nat.le_refl w.heap.size) (.string hs0.an)).new (o := 1) (Nat.le_refl w.heap.size) (.string hs0.tg)).new (o := 2) (Nat.le_refl w.heap.size) (.int .i64 (hs0.bi : Nat))).new (o := 3) (Nat.le_refl w.heap.size) (.int .i64 (hs0.bk : Nat))
       first | exact ⟨kf, ⟨hs0, rfl⟩, by decide⟩ | exact ⟨kf, hs0, rfl⟩
      | ok res =>
       obtain ⟨nm, r⟩ := res
       rw [hnm] at hpr NMF
       dsimp only at hpr NMF
       have hne : nm.size ≠ 0 /\ x.tg.size = 0 /\ Okp E r := by
        unfold namW at hnm
        split at hnm
        ·cases hnm
        ·rename_i hno
         cases hnm
         refine ⟨LN.tag_ne _ ?_, ?_, hq1.more (O.tag_le _)⟩
         ·cases hb : (O.tag (rst E.L (q.plus 0))).2.2 with
          | true => rfl
          | false => exact absurd (.inr (.inl hb)) hno
         ·rcases Nat.eq_zero_or_pos x.tg.size with h0 | h0
          ·exact h0
          ·exact absurd (.inl (by omega)) hno
       have hcn : cntH x = cntH ⟨x.an, nm, r.i, r.k⟩ + 1 := by
        unfold cntH
        dsimp only
        rw [if_pos hne.2.1, if_neg hne.1]
        try omega
       rw [hcn] at hpr
       have HPR : Hid (proF O E.L E.n (cntH ⟨x.an, nm, r.i, r.k⟩ + 1) r ⟨x.an, nm, r.i, r.k⟩ = R) := hpr
       have HNE : Hid (nm.size ≠ 0 /\ x.tg.size = 0 /\ Okp E r) := hne
       have HCN : Hid (cntH x = cntH ⟨x.an, nm, r.i, r.k⟩ + 1) := hcn
       clear hpw HI hn hnm hpr hne hcn
       go_wp2_with (first | (go_at_call 98; refine NX.mono ?_; clear NX; rintro en V1 ⟨rfl, hB1⟩; have g1 := FV.out V1 (.cells #[.int .i64 (q.i : Nat), .int .i64 (q.k : Nat)] 60) hB1; have m0 := (Bx.new V1 (q.i : Nat) (q.k : Nat)).cell 0; have m1 := (Bx.new V1 (q.i : Nat) (q.k : Nat)).cell 1; have d4 := g1.wk.cell 4; have d5 := g1.wk.cell 5; have i4 := g1.wk.frozen 4; have i5 := g1.wk.frozen 5; have g2 := g1.goto hwl q; have hwb1 : V1.heap.size ≠ wb := (by have q1 := g1.ke.size; have q2 := hB1.size; have q3 := hws; omega); have BQ := ((Bx.new V1 (q.i : Nat) (q.k : Nat)).other (g := wb) (o := 4) (.int .i64 (q.i : Nat)) hwb1).other (g := wb) (o := 5) (.int .i64 (q.k : Nat)) hwb1; have n0 := BQ.cell 0; have n1 := BQ.cell 1; simp at m0 m1 d4 d5 n0 n1; have RSB := RS.out _ g2.wk; have HB2 : Hid _ := g2; clear g1 g2 BQ) | (go_at_call 54; refine RSB.mono ?_; clear RSB; rintro en V2 ⟨rfl, hB2⟩; have g2 := HB2.out.on hB2; have hc := HH.out V2 g2.wk; have s0 := g2.b5.cell 0; have s1 := g2.b5.cell 1; have s2 := g2.b5.cell 2; have s3 := g2.b5.cell 3; have r0 := g2.b2.cell 0; have r1 := g2.b2.cell 1; have r2 := g2.b2.cell 2; have r3 := g2.b2.cell 3; have t0 := g2.b2.frozen 0; have t1 := g2.b2.frozen 1; have t2 := g2.b2.frozen 2; have t3 := g2.b2.frozen 3; simp at s0 s1 s2 s3 r0 r1 r2 r3; have HG2 : Hid _ := g2; clear g2) | (go_at_call 99; refine (NMF.out _ HG2.out.wk).mono ?_; clear NMF; rintro en V3 ⟨hk3, rfl, hw3⟩; have g3 : Pw w V3 wb E s ov tv x r := ⟨HG2.out.b5.kee hk3, HG2.out.b2.kee hk3, hw3, HG2.out.ke.trans hk3⟩; have v0 := g3.b5.cell 1; have y0 := g3.b5.frozen 1; have g4 := g3.set1 hwl nm; have d4 := g4.wk.cell 4; have d5 := g4.wk.cell 5; have e2 := g4.b5.cell 2; have e3 := g4.b5.cell 3; have y2 := g4.b5.frozen 2; have y3 := g4.b5.frozen 3; simp at v0 d4 d5 e2 e3; have HG5 : Hid _ := g4.set23 hwl r.i r.k; clear g3 g4 hw3))
       go_roundw
       case rel => exact ⟨_, r, HNE.out.2.2, HG5.out, HPR.out⟩
       case measure =>
        have m1 := hsM_of HG5.out.b5
        have m2 := HM.out
        have m3 := HCN.out
        rw [m2, m3]
        first | (rw [m1]; omega) | trace_state
     ·rw [if_neg h33] at hpr
      have e33 : (hd E.L q == 33) = false := by rw [beq_eq_false_iff_ne]; exact h33
      subst hpr
      generalize hd E.L q = hc0 at *
      clear hpw HI hn
      go_wp2_with (first | (go_at_call 98; refine NX.mono ?_; clear NX; rintro en V1 ⟨rfl, hB1⟩; have g1 := FV.out V1 (.cells #[.int .i64 (q.i : Nat), .int .i64 (q.k : Nat)] 60) hB1; have m0 := (Bx.new V1 (q.i : Nat) (q.k : Nat)).cell 0; have m1 := (Bx.new V1 (q.i : Nat) (q.k : Nat)).cell 1; have d4 := g1.wk.cell 4; have d5 := g1.wk.cell 5; have i4 := g1.wk.frozen 4; have i5 := g1.wk.frozen 5; have g2 := g1.goto hwl q; have hwb1 : V1.heap.size ≠ wb := (by have q1 := g1.ke.size; have q2 := hB1.size; have q3 := hws; omega); have BQ := ((Bx.new V1 (q.i : Nat) (q.k : Nat)).other (g := wb) (o := 4) (.int .i64 (q.i : Nat)) hwb1).other (g := wb) (o := 5) (.int .i64 (q.k : Nat)) hwb1; have n0 := BQ.cell 0; have n1 := BQ.cell 1; simp at m0 m1 d4 d5 n0 n1; have RSB := RS.out _ g2.wk; have HB2 : Hid _ := g2; clear g1 g2 BQ) | (go_at_call 54; refine RSB.mono ?_; clear RSB; rintro en V2 ⟨rfl, hB2⟩; have g2 := HB2.out.on hB2; have hc := HH.out V2 g2.wk; have s0 := g2.b5.cell 0; have s1 := g2.b5.cell 1; have s2 := g2.b5.cell 2; have s3 := g2.b5.cell 3; have r0 := g2.b2.cell 0; have r1 := g2.b2.cell 1; have r2 := g2.b2.cell 2; have r3 := g2.b2.cell 3; have t0 := g2.b2.frozen 0; have t1 := g2.b2.frozen 1; have t2 := g2.b2.frozen 2; have t3 := g2.b2.frozen 3; simp at s0 s1 s2 s3 r0 r1 r2 r3; have HA : Hid _ := g2.answer hwl x; clear g2))
      refine bodyPost_ret (results_pr rfl rfl rfl rfl HA.out.1) rfl ⟨HA.out.2.2, rfl, HA.out.2.1⟩
end Go.Proofs.YtipbhdhiklmieaaGreatDoor
