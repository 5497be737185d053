/- SingleBack's walk. -/
import Derived.Test.YtfblagepgflndaaLaw
import Derived.Test.YtfblagepgflndaaWri
set_option linter.unusedVariables false
set_option linter.unusedSimpArgs false
namespace Go.Proofs.Ytfblagepgflndaa
open Go.RowKit Go.Shelf

/-- The signs of what is written. -/
def sgW : Nat → List Int → List Sg
  | _, [] => []
  | p, c :: r => if c = 39 then (p, 39, true) :: sgW (p + 2) r else (p, c, false) :: sgW (p + 1) r
theorem sg_plain {c : Int} (h : c ≠ 39) (p : Nat) (X : List Int) : sgP p (c :: X) = (p, c, false) :: sgP (p + 1) X := by
  cases X with
  | nil => simp [sgP]
  | cons d r => rw [sgP, if_neg (fun e => h e.1)]
theorem sg_wr : ∀ (t : List Int) (p : Nat) (s : List Int), sgP p (wrP t ++ s) = sgW p t ++ sgP (p + (wrP t).length) s
  | [], p, s => by simp [wrP, sgW]
  | c :: r, p, s => by
    rw [wrP, sgW]
    by_cases h : c = 39
    · rw [if_pos h, if_pos h, List.cons_append, List.cons_append, sgP, if_pos ⟨rfl, rfl⟩, sg_wr r (p + 2) s, List.cons_append]
      congr 3
      simp
      omega
    · rw [if_neg h, if_neg h, List.cons_append, sg_plain h, sg_wr r (p + 1) s, List.cons_append]
      congr 3
      simp
      omega
theorem end_wr : ∀ (t : List Int) (p : Nat) (s : List Sg), endS (sgW p t ++ s) = endS s
  | [], _, _ => rfl
  | c :: r, p, s => by
    rw [sgW]
    by_cases h : c = 39
    · rw [if_pos h, List.cons_append, endS, if_neg (by simp), end_wr r]
    · rw [if_neg h, List.cons_append, endS, if_neg (fun e => h e.1), end_wr r]
theorem pts_wr : ∀ (t : List Int) (p : Nat), (sgW p t).map (·.2.1) = t
  | [], _ => rfl
  | c :: r, p => by
    rw [sgW]
    by_cases h : c = 39
    · rw [if_pos h, List.map_cons, pts_wr r, h]
    · rw [if_neg h, List.map_cons, pts_wr r]
theorem end_body (t : List Int) : endS (sgP 0 (wrP t ++ [39])) = some (wrP t).length := by
  rw [sg_wr, end_wr]
  simp [sgP, endS]
theorem read_body (t : List Int) : readS (wrP t) = t := by
  have := sg_wr t 0 []
  rw [List.append_nil] at this
  unfold readS
  rw [this, sgP, List.append_nil, pts_wr]

theorem slice_one_to (p : Option Addr) (len cap s : Nat) (h1 : 1 ≤ s) (hs : s ≤ cap) (w2 : World) :
    (Instr.slice 24 (.slice p len cap) (some (.int .i64 1)) (some (.int .i64 s)) none).run Try.prog w2 = .ok (.slice (if cap = 1 then p else p.map (·.add 1)) (s - 1) (cap - 1)) w2 := by
  have h0 : (1 : Int) ≤ s := by omega
  have h2 : (s : Int) ≤ cap := by omega
  have u := Try.underlying24
  have z := Try.sizeOf3
  simp [go_sem, h0, h2]

theorem sameS (p q : Option Addr) (l : List Int) (k m c d : Nat) (w : World) (hn : l.length ≤ 1000) (hk : k = l.length) (hm : m = l.length) (hp : Is w p l) (hq : Is w q l) :
    Calls Try.prog 9 #[.slice p k c, .slice q m d] w fun e w' => e = .returned (.bool true) ∧ ∃ k, w' = w.drewN k := by
  subst hk hm
  exact same_ints p q l c d w (by omega) hp hq

/-- Read of a line that is laid in a list of its own. -/
theorem Read_one (q : Option Addr) (t T : List Int) (c : Nat) (W : World) (hI : Is W q t) (hc : t.length ≤ c) (hm : c ≤ maxLen) (ht : t.length ≤ 1048576) (hT : readS t = T) :
    Calls Try.prog 10 #[.slice (some ⟨W.heap.size, 0, none⟩) 1 1] (W.alloc (.cells #[.slice q t.length c] 24)) fun e w' => ∃ q' c', e = .returned (.slice q' T.length c') ∧ Is w' q' T ∧ Below W.heap.size W w' := by
  have hM : Mt (W.alloc (.cells #[.slice q t.length c] 24)) (some ⟨W.heap.size, 0, none⟩) [⟨q, t, c⟩] := by
    have hb := World.alloc_heap_new W (.cells #[.slice q t.length c] 24)
    refine ⟨fun j r hr => ?_, .inr ⟨_, 0, rfl, fun j r hr => ?_⟩⟩
    · match j, hr with
      | 0, hr => cases hr; exact ⟨hc, hm, hI.alloc _⟩
      | j + 1, hr => simp at hr
    · match j, hr with
      | 0, hr => cases hr; unfold World.cell?; dsimp only; rw [hb]; rfl
      | j + 1, hr => simp at hr
  have RD := Read_any (some ⟨W.heap.size, 0, none⟩) [⟨q, t, c⟩] 1 _ ⟨by simp, fun i => by cases i <;> simp [tAt]; exact ht⟩ hM
  rw [flow_one, hT] at RD
  refine RD.mono ?_
  rintro e w' ⟨v, rfl, ho, hb⟩
  obtain ⟨q', c', rfl, hI'⟩ := Owns.read ho
  exact ⟨q', c', rfl, hI', ((Below.refl _ W).alloc (Nat.le_refl _) _).trans (hb.mono (by simp))⟩

/-- What stands behind the first quote, and between both. -/
theorem cut_body {W : World} {p : Option Addr} {n c : Nat} {X Y : List Int} (hl : n + 2 ≤ c) (hm : c ≤ maxLen) (hI : Is W p X) (hX : X.length = n + 2) (hY : X.drop 1 = Y) :
    ∃ q5 c5, (∀ W, (Instr.slice 24 (.slice p (n + 2) c) (some (.int .i64 1)) none none).run Try.prog W = .ok (.slice q5 (n + 1) c5) W) ∧
      (∀ W, (Instr.slice 24 (.slice p (n + 2) c) (some (.int .i64 1)) (some (.int .i64 ((n : Int) + 1))) none).run Try.prog W = .ok (.slice q5 n c5) W) ∧
      (∀ W, (Instr.slice 24 (.slice p (n + 2) c) (some (.int .i64 1)) (some (.int .i64 ((n : Int) + 2 - 1))) none).run Try.prog W = .ok (.slice q5 n c5) W) ∧ Is W q5 Y ∧ n + 1 ≤ c5 ∧ c5 ≤ maxLen := by
  have hI3 := hI.from c 1 (by omega)
  rw [hY] at hI3
  have S2 : ∀ W, (Instr.slice 24 (.slice p (n + 2) c) (some (.int .i64 1)) (some (.int .i64 ((n : Int) + 1))) none).run Try.prog W = .ok (.slice (if c = 1 then p else p.map (·.add 1)) n (c - 1)) W := fun W => slice_one_to p (n + 2) c (n + 1) (by omega) (by omega) W
  exact ⟨_, _, fun W => slice_from p (n + 2) c 1 (by omega) (by omega) W, S2, fun W => by rw [show (n : Int) + 2 - 1 = (n : Int) + 1 by omega]; exact S2 W, hI3, by omega, by omega⟩

set_option maxRecDepth 100000 in
set_option maxHeartbeats 1000000 in
theorem back_law (q : Option Addr) (l : List Int) (c : Nat) (w : World) (hc : l.length ≤ c) (hm : c ≤ maxLen) (hI : Is w q l) :
    Calls Try.prog 4 #[.slice q l.length c] w fun e w' => e = .returned (.bool true) ∧ Below w.heap.size w w' := by
  have AL := alive_any w
  have hm2 : (c : Int) ≤ 9223372036854775807 := by unfold maxLen at hm; omega
  have hc2 : (l.length : Int) ≤ c := by omega
  by_cases hn : l.length ≤ 300
  rotate_left
  · have hn' : (300 : Int) < l.length := by omega
    go_enter Try.func4, Try.ntmps4
    go_wp2_with (first | (go_at_call 6; refine AL.mono ?_; rintro e W1 ⟨rfl, hb⟩))
    go_ret
    exact ⟨rfl, hb⟩
  have hn' : ¬ (300 : Int) < l.length := by omega
  have HI : Hid (∀ W, Below w.heap.size w W → Is W q l) := fun W h => hI.on h
  have MY : ∀ W, Below w.heap.size w W → _ := fun W h => May_any q l c W (by omega) (hI.on h)
  have RM : ∀ W, Below w.heap.size w W → _ := fun W h => refMay_any q l c W (by omega) (hI.on h)
  have WR : ∀ W, Below w.heap.size w W → _ := fun W h => Write_any q l c W (by omega) (hI.on h)
  have RW : ∀ W, Below w.heap.size w W → _ := fun W h => refWrite_any q l c W (by omega) (hI.on h)
  clear hI
  cases hmy : mayP l with
  | false =>
    rw [hmy] at MY RM
    have hw : writeS l = [] := by unfold writeS; rw [hmy]; rfl
    rw [hw] at WR RW
    clear hmy hw HI
    go_enter Try.func4, Try.ntmps4
    go_wp2_with (first | (go_at_call 6; refine AL.mono ?_; rintro e W1 ⟨rfl, hb1⟩) | (go_at_call 12; refine (MY _ hb1).mono ?_; rintro e W1 ⟨rfl, rfl⟩) | (go_at_call 14; refine (RM _ hb3).mono ?_; rintro e W3 ⟨rfl, rfl⟩) | (go_at_call 13; refine (WR _ hb1).mono ?_; rintro e W3 ⟨v3, rfl, ho3, hb3'⟩; obtain ⟨q3, c3, rfl, hI3⟩ := Owns.read ho3; have hb3 := hb1.trans (hb3'.mono hb1.size); simp only [List.length_nil]) | (go_at_call 15; refine (RW _ hb3).mono ?_; rintro e W4 ⟨v4, rfl, ho4, hb4'⟩; obtain ⟨q4, c4, rfl, hI4⟩ := Owns.read ho4; have hb4 := hb3.trans (hb4'.mono hb3.size); simp only [List.length_nil]) | (go_at_call 9; refine (sameS q3 q4 [] 0 0 c3 c4 _ (by simp) rfl rfl (.inl rfl) (.inl rfl)).mono ?_; rintro e W5 ⟨rfl, m5, rfl⟩))
    go_ret
    exact ⟨rfl, belowN hb4 _⟩
  | true =>
    rw [hmy] at MY RM
    have hw : writeS l = 39 :: wrP l ++ [39] := by unfold writeS; rw [hmy]; rfl
    rw [hw] at WR RW
    have hbl := wr_len l
    have hE := end_body l
    have hR := read_body l
    clear hmy hw
    have hLE : (39 :: wrP l ++ [39]).length = (wrP l).length + 2 := by simp
    have hD : (39 :: wrP l ++ [39]).drop 1 = wrP l ++ [39] := rfl
    have hTk : (wrP l ++ [39]).take (wrP l).length = wrP l := by simp
    have hD2 : (wrP l ++ [39]).length = (wrP l).length + 1 := by simp
    generalize wrP l = B at *
    have hBn : (B.length : Int) ≤ 600 := by omega
    generalize 39 :: B ++ [39] = X at *
    have WR' : ∀ W, Below w.heap.size w W → Calls Try.prog 13 #[.slice q l.length c] W fun e w' => Below w.heap.size w w' ∧ ∃ p2 c2, e = .returned (.slice p2 (B.length + 2) c2) ∧ B.length + 2 ≤ c2 ∧ c2 ≤ maxLen ∧ Is w' p2 X := fun W h => (WR W h).mono (by
      rintro e w' ⟨v, rfl, ho, hb⟩
      obtain ⟨a2, k2, c2, rfl⟩ := ownsRow_form ho
      obtain ⟨i2, e2, l2, m2⟩ := is_of_row ho
      rw [hLE] at e2
      subst e2
      exact ⟨h.trans (hb.mono h.size), a2, c2, rfl, l2, m2, i2⟩)
    have RW' : ∀ W, Below w.heap.size w W → Calls Try.prog 15 #[.slice q l.length c] W fun e w' => Below W.heap.size W w' ∧ ∃ p2 c2, e = .returned (.slice p2 (B.length + 2) c2) ∧ Is w' p2 X := fun W h => (RW W h).mono (by
      rintro e w' ⟨v, rfl, ho, hb⟩
      obtain ⟨a2, k2, c2, rfl⟩ := ownsRow_form ho
      obtain ⟨i2, e2, l2, m2⟩ := is_of_row ho
      rw [hLE] at e2
      subst e2
      exact ⟨hb, a2, c2, rfl, i2⟩)
    have HLE : Hid (X.length = B.length + 2) := hLE
    have HD : Hid (X.drop 1 = B ++ [39]) := hD
    have HTk : Hid ((B ++ [39]).take B.length = B) := hTk
    have HD2 : Hid ((B ++ [39]).length = B.length + 1) := hD2
    have HE : Hid (endS (sgP 0 (B ++ [39])) = some B.length) := hE
    have HR : Hid (readS B = l) := hR
    clear WR RW hLE hD hTk hD2 hE hR
    have SM : ∀ (W : World) (p1 p2 : Option Addr) (c1 c2 : Nat), Is W p1 X → Is W p2 X → Calls Try.prog 9 #[.slice p1 (B.length + 2) c1, .slice p2 (B.length + 2) c2] W fun e w' => e = .returned (.bool true) ∧ ∃ k, w' = W.drewN k := fun W p1 p2 c1 c2 h1 h2 => sameS p1 p2 X _ _ c1 c2 W (by rw [HLE.out]; omega) HLE.out.symm HLE.out.symm h1 h2
    have EA : ∀ (W : World) (p1 : Option Addr) (c1 : Nat), Is W p1 (B ++ [39]) → Calls Try.prog 7 #[.slice p1 (B.length + 1) c1] W fun e w' => e = .returned (.tuple #[.int .i64 (B.length : Nat), .bool true]) ∧ Below W.heap.size W w' := fun W p1 c1 h => by
      have := End_any p1 (B ++ [39]) c1 W (by rw [HD2.out]; omega) h
      rw [HE.out, HD2.out] at this
      exact this
    have RDF : Hid (∀ (W3 W4 W6 : World) (q5 : Option Addr) (c5 : Nat), Below w.heap.size w W3 → Below W3.heap.size W3 W4 → Below W4.heap.size W4 W6 → Is W3 q5 (B ++ [39]) → B.length + 1 ≤ c5 → c5 ≤ maxLen → Below w.heap.size w W6 ∧ Is W6 q5 B ∧
        Calls Try.prog 10 #[.slice (some ⟨W6.heap.size, 0, none⟩) 1 1] (W6.alloc (.cells #[.slice q5 B.length c5] 24)) fun e w' => ∃ q' c', e = .returned (.slice q' l.length c') ∧ Is w' q' l ∧ Below W6.heap.size W6 w') := fun W3 W4 W6 q5 c5 h1 h2 h3 h4 h5 h6 => by
      have i6 := ((h4.on h2).on h3).take B.length
      rw [HTk.out] at i6
      exact ⟨(h1.trans (h2.mono h1.size)).trans (h3.mono (Nat.le_trans h1.size h2.size)), i6, Read_one q5 B l c5 W6 i6 (by omega) h6 (by omega) HR.out⟩
    have hkk : ((B.length : Int) == (B.length : Int) + 2 - 2) = true := by simp
    go_enter Try.func4, Try.ntmps4
    go_wp2_with (first | (go_at_call 6; refine AL.mono ?_; rintro e W1 ⟨rfl, hb1⟩) | (go_at_call 12; refine (MY _ hb1).mono ?_; rintro e W1 ⟨rfl, rfl⟩) | (go_at_call 14; refine (RM _ hb3).mono ?_; rintro e W3 ⟨rfl, rfl⟩) | (go_at_call 13; refine (WR' _ hb1).mono ?_; rintro e W3 ⟨hb3, p3, c3, rfl, hl3, hm3, hI3⟩; obtain ⟨q5, c5, S1, S2, S3, hI5, hl5, hm5⟩ := cut_body hl3 hm3 hI3 HLE.out HD.out) | (go_at_call 15; refine (RW' _ hb3).mono ?_; rintro e W4 ⟨hb4, p4, c4, rfl, hI4⟩) | (go_at_call 9; refine (SM _ _ _ _ _ (hI3.on hb4) hI4).mono ?_; rintro e W5 ⟨rfl, m5, rfl⟩; clear SM) | (go_at_call 7; refine (EA _ _ _ (hI5.on (belowN hb4 m5))).mono ?_; rintro e W6 ⟨rfl, hb6⟩; obtain ⟨hb36, hI6, RD⟩ := RDF.out W3 _ W6 _ _ hb3 (belowN hb4 m5) hb6 hI5 hl5 hm5) | (go_at_call 10; refine RD.mono ?_; rintro e W7 ⟨q7, c7, rfl, hI7, hb7⟩) | (go_at_call 9; refine (sameS q7 q l _ _ c7 c _ (by omega) rfl rfl hI7 (HI.out _ (hb36.trans (hb7.mono hb36.size)))).mono ?_; rintro e W8 ⟨rfl, m8, rfl⟩))
    go_ret
    exact ⟨rfl, belowN (hb36.trans (hb7.mono hb36.size)) _⟩
end Go.Proofs.Ytfblagepgflndaa
