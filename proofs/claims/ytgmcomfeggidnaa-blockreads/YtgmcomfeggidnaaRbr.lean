/- The document's BlockRead, as it runs. -/
import Derived.Test.YtgmcomfeggidnaaDet
import Derived.Test.YtgmcomfeggidnaaDtp
set_option linter.unusedVariables false
set_option linter.unusedSimpArgs false
namespace Go.Proofs.Ytgmcomfeggidnaa
open Go.RowKit Go.Shelf

/-- One row more, as the walk wants it. -/
theorem rd_step {n₀ : Nat} {W : World} {v : Value} {R : List Row} {r : Row} (hv : OwnsM W n₀ v R) (hrs : ∀ r ∈ R, Rp n₀ W r) (hr : Rp n₀ W r) (hn : n₀ ≤ W.heap.size) (hl : R.length + 1 ≤ 1073741824) :
    ∃ v2 w2, (Builtin.append_ #[41, 41] 41 #[v, .slice (some ⟨W.heap.size, 0, none⟩) 1 1]).run Try.prog (W.alloc (.cells #[rowV r] 22)) = .ok v2 w2 ∧ OwnsM w2 n₀ v2 (R ++ [r]) ∧ (∀ r' ∈ R ++ [r], Rp n₀ w2 r') ∧ Below n₀ W w2 ∧
      ∀ (b : Nat) cur t f, W.heap[b]? = some (.cells cur t f) → t ≠ 22 → w2.heap[b]? = W.heap[b]? := by
  obtain ⟨g, cap, w2, h1, h2, h3, h4⟩ := pushM_run hv hn hl r
  have keep : ∀ (b : Nat) cur t f, W.heap[b]? = some (.cells cur t f) → t ≠ 22 → w2.heap[b]? = W.heap[b]? := fun b cur t f hb ht => by
    have hlt := (Array.getElem?_eq_some_iff.1 hb).1
    rw [h3.block b (by simp; omega) (fun e => ?_), Below.heap_alloc W _ b hlt]
    obtain ⟨-, -, cur', h'⟩ := ownsM_cells hv e.symm
    rw [h'] at hb; cases hb; exact ht rfl
  have hb2 : Below n₀ W w2 := ((Below.refl n₀ W).alloc hn _).grown h3 (by simp; omega) (fun k e => (ownsM_cells hv e).1)
  refine ⟨_, w2, h1, h2, fun r' hr' => ?_, hb2, keep⟩
  refine Rp.kept ?_ (fun b hlt => hb2.block b hlt) (fun b ⟨cur, f, hc⟩ => keep b cur 3 f hc (by decide))
  rcases List.mem_append.1 hr' with h | h
  · exact hrs r' h
  · simp at h; rw [h]; exact hr

theorem Rp.on {n₀ : Nat} {A B : World} {r : Row} (h : Rp n₀ A r) (hb : Below A.heap.size A B) (hn : n₀ ≤ A.heap.size) : Rp n₀ B r :=
  Rp.kept h (fun b hlt => hb.block b (by omega)) (fun b ⟨cur, f, hc⟩ => hb.block b (Array.getElem?_eq_some_iff.1 hc).1)
theorem ownsM_on {W W' : World} {base : Nat} {v : Value} {R : List Row} (h : OwnsM W base v R) (hB : Below W.heap.size W W') : OwnsM W' base v R := by
  have hlt := h.lt
  obtain ⟨h0, h1 | ⟨g, cap, cur, rfl, hb, hg, rest⟩⟩ := h
  · exact ⟨h0, .inl h1⟩
  · exact ⟨h0, .inr ⟨g, cap, cur, rfl, hb, (hB.block g (hlt g rfl).2).trans hg, rest⟩⟩

/-- What holds ahead of each line. -/
structure Irb (w : World) (f : Bool) (ch more : Int) (Ts : List (List Int)) (k : Nat) (v : Value) (W : World) : Prop where
  rows : ∃ R, OwnsM W w.heap.size v R ∧ R.map (·.t) = Ts.take k ∧ ∀ r ∈ R, Rp w.heap.size W r
  below : Below w.heap.size w W
  hd : Hb W w.heap.size 29 f ch more
theorem Irb.on {w : World} {f : Bool} {ch more : Int} {Ts : List (List Int)} {k : Nat} {v : Value} {A B : World} (h : Irb w f ch more Ts k v A) (hb : Below A.heap.size A B) : Irb w f ch more Ts k v B := by
  obtain ⟨R, h1, h2, h3⟩ := h.rows
  exact ⟨⟨R, ownsM_on h1 hb, h2, fun r hr => (h3 r hr).on hb h.below.size⟩, h.below.trans (hb.mono h.below.size), h.hd.on hb⟩
theorem Irb.push {w : World} {f : Bool} {ch more : Int} {Ts : List (List Int)} {k : Nat} {v : Value} {W : World} (h : Irb w f ch more Ts k v W) {r : Row} (hr : Rp w.heap.size W r) (hx : Ts[k]? = some r.t) (hT : Ts.length ≤ 1000) :
    ∃ v2 w2, (Builtin.append_ #[41, 41] 41 #[v, .slice (some ⟨W.heap.size, 0, none⟩) 1 1]).run Try.prog (W.alloc (.cells #[rowV r] 22)) = .ok v2 w2 ∧ Irb w f ch more Ts (k + 1) v2 w2 ∧ ∃ a n c, v2 = .slice a n c := by
  obtain ⟨R, h1, h2, h3⟩ := h.rows
  have hRl : R.length ≤ 1000 := by
    have := congrArg List.length h2
    simp at this
    omega
  obtain ⟨v2, w2, hrun, o2, r2, b2, k2⟩ := rd_step h1 h3 hr h.below.size (by omega)
  refine ⟨v2, w2, hrun, ⟨⟨_, o2, ?_, r2⟩, h.below.trans b2, (k2 _ _ _ _ h.hd (by decide)).trans h.hd⟩, ownsRow_form o2⟩
  rw [List.take_add_one, hx, List.map_append, h2]
  rfl

/-- What is the same in each way. -/
structure Rbc (f : Bool) (ch ind : Int) (L : List Ln) (Ts : List (List Int)) (rT : List Int) (N : Nat) : Prop where
  n : tkN ind L = N
  pl : Ts.length = N
  sm : ∀ t ∈ Ts, t.length ≤ 2000
  at_ : ∀ (i : Nat) (x : Ln), i < N → L[i]? = some x → Ts[i]? = some (behP ind x.n x.t)
  t : rT = wholeT (fp f) (rowsOf Ts) ch
  le : N ≤ 100
theorem rbc_of (f : Bool) (ch ind : Int) {L : List Ln} (hB : Bnd L) (hi0 : 0 ≤ ind) : Rbc f ch ind L (pcsP ind L) (readT f ch ind L) (tkN ind L) :=
  ⟨rfl, pcs_len ind L, pcs_small hB hi0, fun i x => pcs_at, rfl, Nat.le_trans (tk_le ind L) hB.1⟩

theorem rbc_lt {f : Bool} {ch ind : Int} {L : List Ln} {Ts : List (List Int)} {rT : List Int} {N : Nat} (h : Rbc f ch ind L Ts rT N) {k : Nat} {x : Ln} (hx : L[k]? = some x) (hV : ∀ (j : Nat) (y : Ln), j < k → L[j]? = some y → endsP ind y.n y.t = false) (he : endsP ind x.n x.t = false) : k < N := by
  rw [← h.n]
  have hlt := (List.getElem?_eq_some_iff.1 hx).1
  by_cases h2 : tkN ind L ≤ k
  · exfalso
    obtain ⟨y, hy⟩ : ∃ y, L[tkN ind L]? = some y := ⟨_, List.getElem?_eq_getElem (by omega)⟩
    have h3 := tk_at ind L y hy
    by_cases e : tkN ind L = k
    · rw [e, hx] at hy; cases hy; rw [he] at h3; cases h3
    · rw [hV _ y (by omega) hy] at h3; cases h3
  · omega

theorem refText (f : Bool) {ch ind : Int} {L : List Ln} {Ts : List (List Int)} {rT : List Int} {N : Nat} (h : Rbc f ch ind L Ts rT N) {R : List Row} (hR : R.map (·.t) = Ts.take N) : wholeT (fp f) R ch = rT ∧ rT.length ≤ 300000 ∧ Sized R ∧ R.length = N := by
  rw [← h.pl, List.take_length] at hR
  have hl : R.length = N := by rw [← h.pl, ← hR, List.length_map]
  have hs := rows_small hR h.sm
  have hw : wholeT (fp f) R ch = rT := by rw [h.t]; exact whole_congr _ (by rw [rowsOf_t]; exact hR) ch
  refine ⟨hw, ?_, ⟨by have := h.le; omega, fun i => Nat.le_trans (hs i) (by decide)⟩, hl⟩
  rw [← hw]
  exact whole_len _ (by have := h.le; omega) hs ch

set_option maxRecDepth 100000 in
set_option maxHeartbeats 4000000 in
theorem rRead_some (f : Bool) (ch more n : Int) (p : Option Addr) (L : List Ln) (cap : Nat) (w : World) (ind : Int) (Ts : List (List Int)) (rT : List Int) (N : Nat) (hB : Bnd L) (hL : Ls w p L) (hn : n ≤ 1000) (hm0 : 0 ≤ more) (hm1 : more ≤ 9) (hind : indP L more (max n (-1)) = some ind) (hC : Rbc f ch ind L Ts rT N) :
    Calls Try.prog 13 #[.slice p L.length cap, .agg #[.bool f, .int .i64 ch, .int .i64 more], .int .i64 n] w fun e w' => e = .returned (.tuple #[.string (strB (encZ rT)), .int .i64 (N : Nat), .int .i64 0]) ∧ Below w.heap.size w w' := by
  have hlen : (L.length : Int) ≤ 100 := by have := hB.1; omega
  have HC : Hid (Rbc f ch ind L Ts rT N) := hC
  have hb0 : Below w.heap.size w (w.alloc (.cells #[.bool f, .int .i64 ch, .int .i64 more] 29)) := (Below.refl _ w).alloc (Nat.le_refl _) _
  have IA : Hid (Irb w f ch more Ts 0 (.slice none 0 0) (w.alloc (.cells #[.bool f, .int .i64 ch, .int .i64 more] 29))) := ⟨⟨[], World.ownsRow_nil _ _ 22 1, rfl, fun r h => by cases h⟩, hb0, Hb.new w 29 f ch more⟩
  have hi := indP_bnd hB (by omega) (by omega) hm0 hm1 hind
  obtain ⟨hi0, hi1⟩ := hi
  have hmx0 : -1 ≤ max n (-1) := by omega
  have hmx1 : max n (-1) ≤ 1000 := by omega
  have DT := detect_any p L cap (max n (-1)) _ hB (hL.on hb0) hmx0 hmx1
  have HI : Hid (indP L more (max n (-1)) = some ind) := hind
  have hmx : max n (-1) = if n < -1 then -1 else n := by split <;> omega
  have HMX : Hid (max n (-1) = if n < -1 then -1 else n) := hmx
  clear hC hind hmx
  generalize max n (-1) = m0 at hmx0 hmx1 DT HI HMX
  go_enter Try.func13, Try.ntmps13
  go_upto_if 20 with fail
  go_cut [2] from 19 (fun s2 wx => s2 = .int .i64 m0 ∧ wx = w.alloc (.cells #[.bool f, .int .i64 ch, .int .i64 more] 29))
  case first =>
    clear DT
    by_cases h : n < -1
    · have hm := HMX.out
      rw [if_pos h] at hm
      subst hm
      go_wp2
      go_meet
      case rel => exact ⟨rfl, rfl⟩
    · have hm := HMX.out
      rw [if_neg h] at hm
      subst hm
      go_wp2
      go_meet
      case rel => exact ⟨rfl, rfl⟩
  case rest =>
    obtain ⟨rfl, rfl⟩ := hcut
    go_upto_if 26 with fail
    go_cut [9] from 19 (fun s9 wx => s9 = .int .i64 (if m0 < 0 then more else m0 + more) ∧ wx = w.alloc (.cells #[.bool f, .int .i64 ch, .int .i64 more] 29))
    case first =>
      clear DT
      by_cases h : m0 < 0
      · go_wp2
        go_meet
        case rel => exact ⟨by rw [if_pos (by omega)], rfl⟩
      · go_wp2
        go_meet
        case rel => exact ⟨by rw [if_neg (by omega)], rfl⟩
    case rest =>
      obtain ⟨rfl, rfl⟩ := hcut
      go_upto_if 31 with fail
      go_cut [9, 10, 11] from 19 (fun s9 s10 s11 wx => s9 = .int .i64 ind ∧ Irb w f ch more Ts 0 (.slice none 0 0) wx)
      case first =>
        by_cases h : more = 0
        · subst h
          unfold DetQ at DT
          rw [HI.out] at DT
          unfold detV at DT
          dsimp only at DT
          go_wp2_with (first | (go_at_call 24; refine DT.mono ?_; rintro e w2 ⟨rfl, hb2⟩))
          go_meet
          case rel => exact ⟨rfl, IA.out.on hb2⟩
        · have h' : (more == 0) = false := by simpa using h
          have hi' := HI.out
          unfold indP at hi'
          rw [if_pos (by omega)] at hi'
          have hi2 : (if m0 < 0 then more else m0 + more) = ind := by
            have := Option.some.inj hi'
            split <;> omega
          rw [hi2]
          clear DT hi' hi2
          go_wp2
          go_meet
          case rel => exact ⟨rfl, IA.out⟩
      case rest =>
        obtain ⟨rfl, hIA⟩ := hcut
        have IA : Hid _ := hIA
        clear DT hIA HI HMX
        go_wp2
        go_loopw [12, 13] (fun lv iv wr => ∃ (k : Nat), k ≤ L.length ∧ iv = .int .i64 k ∧ Hid (∀ (j : Nat) (x : Ln), j < k → L[j]? = some x → endsP ind x.n x.t = false) ∧ Irb w f ch more Ts k lv wr ∧ ∃ a m c, lv = .slice a m c) (fun _ iv _ => L.length - (intOf iv).toNat)
        case atStart => exact ⟨0, Nat.zero_le _, rfl, fun j x hj => by omega, IA.out, _, _, _, rfl⟩
        case round =>
          obtain ⟨k, hk, rfl, HV, hJ, va, vm, vc, rfl⟩ := hrel
          obtain ⟨W0, rfl⟩ : ∃ W0, W0 = wr := ⟨_, rfl⟩
          have hLr := hL.on (hJ.below)
          by_cases hlt : k < L.length
          · have hli : (k : Int) < L.length := by omega
            obtain ⟨x, hx⟩ : ∃ x, L[k]? = some x := ⟨_, List.getElem?_eq_getElem hlt⟩
            obtain ⟨b0, o0, rfl, hcell⟩ := hLr.at (by omega)
            obtain ⟨c0, c1⟩ := hcell k x hx
            obtain ⟨x0, x1, x2⟩ := hB.2 k x hx
            obtain ⟨x3, x4, hI⟩ := hLr.1 k x hx
            have hIa : Is (W0.alloc (.cells #[.int .i64 x.n, .slice x.q x.t.length x.c] 44)) x.q x.t := hI.alloc _
            obtain ⟨k0, k1⟩ := box2 (w := W0) (w2 := W0.alloc (.cells #[.int .i64 x.n, .slice x.q x.t.length x.c] 44)) (a := .int .i64 x.n) (b := .slice x.q x.t.length x.c) (t := 44) (Below.refl _ _)
            have hba : Below W0.heap.size W0 (W0.alloc (.cells #[.int .i64 x.n, .slice x.q x.t.length x.c] 44)) := (Below.refl _ W0).alloc (Nat.le_refl _) _
            have M := fun W hW => rmarker_any x.n x.q x.t x.c W (by omega) hW
            have V := rvoid_any x.n x.q x.t.length x.c
            have mk0 := mark_nn x.n x.t
            have HE : Hid (endsP ind x.n x.t = (!decide (x.t.length = 0) && (decide (x.n < ind) || !decide (markP x.n x.t = 0)))) := rfl
            have HS0 : Hid (endsP ind x.n x.t = true → N = k) := fun he => HC.out.n.symm.trans (tk_eq ind L k hk HV.out (fun y hy => by rw [hx] at hy; cases hy; exact he))
            have HG : Hid (endsP ind x.n x.t = false → (∀ (j : Nat) (y : Ln), j < k + 1 → L[j]? = some y → endsP ind y.n y.t = false) ∧ Ts[k]? = some (behP ind x.n x.t)) := fun he => ⟨fun j y hj hy => by
                by_cases e : j = k
                · subst e; rw [hx] at hy; cases hy; exact he
                · exact HV.out j y (by omega) hy, HC.out.at_ k x (rbc_lt HC.out hx HV.out he) hx⟩
            have hmv : x.t.length = 0 → markP x.n x.t = 0 := fun h => mark_short (by omega) _
            clear hx hcell hLr
            obtain ⟨xn, xq, xt, xc⟩ := x
            dsimp only at c0 c1 x0 x1 x2 x3 x4 hI hIa k0 k1 hba M V mk0 HE HS0 HG hmv
            generalize markP xn xt = mm at M mk0 HE hmv
            by_cases hv : xt.length = 0
            · have hmm := hmv hv
              subst hmm
              have he : endsP ind xn xt = false := by rw [HE.out]; simp [hv]
              rw [decide_eq_true hv] at V
              clear hv
              have hG := HG.out he
              obtain ⟨hG1, hG2⟩ := hG
              have HV1 : Hid (∀ (j : Nat) (y : Ln), j < k + 1 → L[j]? = some y → endsP ind y.n y.t = false) := hG1
              have HT1 : Hid (Ts[k]? = some (List.replicate (xn - ind).toNat 32 ++ xt)) := hG2
              clear he HE HS0 HG hG1 hG2 HV hmv
              go_wp2_with (first | (go_at_call 25; refine (M _ hIa).mono ?_; rintro e w2 ⟨rfl, hb2⟩; obtain ⟨k0', k1'⟩ := ((⟨(hb2.cell (p := ⟨W0.heap.size, 0, none⟩) (by show W0.heap.size < _; simp)).trans k0, (hb2.cell (p := ⟨W0.heap.size, 1, none⟩) (by show W0.heap.size < _; simp)).trans k1⟩ : _ ∧ _))) | (go_at_call 26; refine (V _).mono ?_; rintro e w3 ⟨rfl, hb3⟩; obtain ⟨k0'', k1''⟩ := ((⟨(hb3.cell (p := ⟨W0.heap.size, 0, none⟩) (by show W0.heap.size < _; have := hb2.size; simp at this; omega)).trans k0', (hb3.cell (p := ⟨W0.heap.size, 1, none⟩) (by show W0.heap.size < _; have := hb2.size; simp at this; omega)).trans k1'⟩ : _ ∧ _))))
              have hJ3 := (hJ.on hba).on (hb2.trans (hb3.mono hb2.size))
              have hI3 := (hIa.on hb2).on hb3
              have hs3 : W0.heap.size < w3.heap.size := by have h8 := hb2.size; have h9 := hb3.size; simp at h8; omega
              go_loopw [16, 17] (fun rv kv wq => ∃ (j : Nat), j ≤ (xn - ind).toNat ∧ kv = .int .i64 (ind + j) ∧ Owns wq w3.heap.size rv (List.replicate j 32) ∧ Below w3.heap.size w3 wq ∧ ∃ a m c, rv = .slice a m c) (fun _ kv _ => (xn - intOf kv).toNat)
              case atStart => exact ⟨0, Nat.zero_le _, by simp, World.ownsRow_nil _ _ 3 1, Below.refl _ _, _, _, _, rfl⟩
              case round =>
                obtain ⟨j, hj, rfl, hO, hbq, ra, rm, rc, rfl⟩ := hrel
                have kq0 := (hbq.cell (p := ⟨W0.heap.size, 0, none⟩) hs3).trans k0''
                have kq1 := (hbq.cell (p := ⟨W0.heap.size, 1, none⟩) hs3).trans k1''
                by_cases hjd : j < (xn - ind).toNat
                · have hjx : ind + (j : Int) < xn := by omega
                  obtain ⟨v7, w7, AP, o7, b7⟩ := push1w hO hbq.size (by simp; omega) 32
                  rw [show List.replicate j (32 : Int) ++ [32] = List.replicate (j + 1) 32 from (List.replicate_succ' ..).symm] at o7
                  obtain ⟨a7, m7, c7, rfl⟩ := ownsRow_form o7
                  go_wp2_with (first | (at_builtin; refine wpList_append_run (u := .slice ra rm rc) rfl _ _ 22 rfl rfl rfl AP ?_))
                  go_roundw
                  case rel => exact ⟨j + 1, by omega, by go_num, o7, hbq.trans b7, _, _, _, rfl⟩
                  case measure => simp [intOf]; omega
                · obtain rfl : j = (xn - ind).toNat := by omega
                  have hjx : ¬ ind + (((xn - ind).toNat : Nat) : Int) < xn := by omega
                  obtain ⟨v7, w7, AP, o7, g7⟩ := pushL xc hO hbq.size (by simp; omega) (hI3.on hbq)
                  have b7 := owns_below hO g7 (Nat.le_refl _) hbq.size
                  obtain ⟨a7, m7, c7, rfl⟩ := ownsRow_form o7
                  obtain ⟨r1, r2, r3, r4⟩ := is_of_row o7
                  subst r2
                  have hJ7 := hJ3.on (hbq.trans b7)
                  obtain ⟨v8, w8, AP8, hJ8, a8, m8, c8, rfl⟩ := hJ7.push (r := ⟨a7, List.replicate (xn - ind).toNat 32 ++ xt, c7⟩) ⟨r3, r4, r1, owns_pcw o7 _⟩ HT1.out (by have := HC.out.pl; have := HC.out.le; omega)
                  unfold rowV at AP8
                  dsimp only at AP8
                  generalize (xn - ind).toNat = dd at AP AP8 hjx
                  generalize (List.replicate dd (32 : Int) ++ xt).length = ll at AP AP8
                  go_wp2_with (first | (at_builtin; refine wpList_append_run (u := .slice ra rm rc) rfl _ _ 22 rfl rfl rfl AP ?_) | (at_builtin; refine wpList_append_run (u := .slice va vm vc) rfl _ _ 41 rfl rfl rfl AP8 ?_))
                  go_roundw
                  case rel => exact ⟨k + 1, by omega, by go_num, HV1, hJ8, _, _, _, rfl⟩
                  case measure => simp [intOf]; omega
            · rw [decide_eq_false hv] at V
              by_cases hlo : xn < ind
              · have he : endsP ind xn xt = true := by rw [HE.out]; simp [hv, hlo]
                obtain rfl := HS0.out he
                clear he HE HS0 HG HV hmv hv
                cases f with
                | false =>
                  go_wp2_with (first | (go_at_call 25; refine (M _ hIa).mono ?_; rintro e w2 ⟨rfl, hb2⟩; obtain ⟨k0', k1'⟩ := ((⟨(hb2.cell (p := ⟨W0.heap.size, 0, none⟩) (by show W0.heap.size < _; simp)).trans k0, (hb2.cell (p := ⟨W0.heap.size, 1, none⟩) (by show W0.heap.size < _; simp)).trans k1⟩ : _ ∧ _))) | (go_at_call 26; refine (V _).mono ?_; rintro e w3 ⟨rfl, hb3⟩; obtain ⟨k0'', k1''⟩ := ((⟨(hb3.cell (p := ⟨W0.heap.size, 0, none⟩) (by show W0.heap.size < _; have := hb2.size; simp at this; omega)).trans k0', (hb3.cell (p := ⟨W0.heap.size, 1, none⟩) (by show W0.heap.size < _; have := hb2.size; simp at this; omega)).trans k1'⟩ : _ ∧ _)); have hJ3 := (hJ.on hba).on (hb2.trans (hb3.mono hb2.size)); obtain ⟨R, oR, tR, pR⟩ := hJ3.rows; obtain ⟨hMt, hvm⟩ := mt_of oR pR; subst hvm; obtain ⟨hw, hwl, hS, hRl⟩ := refText false HC.out tR; have HRl : Hid (R.length = N) := hRl; have hbJ := hJ3.below; obtain ⟨z0, z1, z2⟩ := hJ3.hd.cells; have LT := refLiteral_any va R vc ch w3 hS hMt; have hHd := hJ3.hd; have hw' : wholeT alwaysP R ch = rT := hw; rw [hw'] at LT; clear hw hw' tR pR hMt oR hRl) | (go_at_call 27; refine LT.mono ?_; rintro e w4 ⟨v4, rfl, ho4, hb4⟩; obtain ⟨q4, m4, c4, rfl⟩ := ownsRow_form ho4; obtain ⟨i4, rfl, -, -⟩ := is_of_row ho4; obtain ⟨y0, y1, y2⟩ := (hHd.on hb4).cells) | (go_at_call 15; refine (refBytes_any q4 rT c4 w4 (by omega) i4 i4.lt).mono ?_; rintro e w5 ⟨v5, rfl, ho5, hb5⟩; have CV := own_string ho5 (encZ_byte rT); obtain ⟨q5, m5, c5, rfl⟩ := ownsRow_form ho5))
                  go_ret3
                  exact ⟨by rw [← HRl.out]; rfl, hbJ.trans ((hb4.trans (hb5.mono hb4.size)).mono hbJ.size)⟩
                | true =>
                  go_wp2_with (first | (go_at_call 25; refine (M _ hIa).mono ?_; rintro e w2 ⟨rfl, hb2⟩; obtain ⟨k0', k1'⟩ := ((⟨(hb2.cell (p := ⟨W0.heap.size, 0, none⟩) (by show W0.heap.size < _; simp)).trans k0, (hb2.cell (p := ⟨W0.heap.size, 1, none⟩) (by show W0.heap.size < _; simp)).trans k1⟩ : _ ∧ _))) | (go_at_call 26; refine (V _).mono ?_; rintro e w3 ⟨rfl, hb3⟩; obtain ⟨k0'', k1''⟩ := ((⟨(hb3.cell (p := ⟨W0.heap.size, 0, none⟩) (by show W0.heap.size < _; have := hb2.size; simp at this; omega)).trans k0', (hb3.cell (p := ⟨W0.heap.size, 1, none⟩) (by show W0.heap.size < _; have := hb2.size; simp at this; omega)).trans k1'⟩ : _ ∧ _)); have hJ3 := (hJ.on hba).on (hb2.trans (hb3.mono hb2.size)); obtain ⟨R, oR, tR, pR⟩ := hJ3.rows; obtain ⟨hMt, hvm⟩ := mt_of oR pR; subst hvm; obtain ⟨hw, hwl, hS, hRl⟩ := refText true HC.out tR; have HRl : Hid (R.length = N) := hRl; have hbJ := hJ3.below; obtain ⟨z0, z1, z2⟩ := hJ3.hd.cells; have LT := refLiteral_any va R vc ch w3 hS hMt; have hHd := hJ3.hd; have hw' : wholeT spacedP R ch = rT := hw; have BL := fun W4 (h : Below w3.heap.size w3 W4) => refBlock_any va R vc ch W4 hS (hMt.on h); rw [hw'] at BL; generalize wholeT alwaysP R ch = T1 at LT; clear hw hw' tR pR hMt oR hRl) | (go_at_call 27; refine LT.mono ?_; rintro e w4 ⟨v4, rfl, ho4, hb4⟩; obtain ⟨q4, m4, c4, rfl⟩ := ownsRow_form ho4; obtain ⟨y0, y1, y2⟩ := (hHd.on hb4).cells) | (go_at_call 28; refine (BL _ hb4).mono ?_; rintro e w6 ⟨v6, rfl, ho6, hb6⟩; obtain ⟨q6, m6, c6, rfl⟩ := ownsRow_form ho6; obtain ⟨i6, rfl, -, -⟩ := is_of_row ho6) | (go_at_call 15; refine (refBytes_any q6 rT c6 w6 (by omega) i6 i6.lt).mono ?_; rintro e w5 ⟨v5, rfl, ho5, hb5⟩; have CV := own_string ho5 (encZ_byte rT); obtain ⟨q5, m5, c5, rfl⟩ := ownsRow_form ho5))
                  go_ret3
                  exact ⟨by rw [← HRl.out]; rfl, hbJ.trans (((hb4.trans (hb6.mono hb4.size)).trans (hb5.mono (Nat.le_trans hb4.size hb6.size))).mono hbJ.size)⟩
              · by_cases hmm : mm = 0
                · subst hmm
                  have he : endsP ind xn xt = false := by rw [HE.out]; simp [hv, hlo]
                  clear hv
                  have hG := HG.out he
                  obtain ⟨hG1, hG2⟩ := hG
                  have HV1 : Hid (∀ (j : Nat) (y : Ln), j < k + 1 → L[j]? = some y → endsP ind y.n y.t = false) := hG1
                  have HT1 : Hid (Ts[k]? = some (List.replicate (xn - ind).toNat 32 ++ xt)) := hG2
                  clear he HE HS0 HG hG1 hG2 HV hmv
                  go_wp2_with (first | (go_at_call 25; refine (M _ hIa).mono ?_; rintro e w2 ⟨rfl, hb2⟩; obtain ⟨k0', k1'⟩ := ((⟨(hb2.cell (p := ⟨W0.heap.size, 0, none⟩) (by show W0.heap.size < _; simp)).trans k0, (hb2.cell (p := ⟨W0.heap.size, 1, none⟩) (by show W0.heap.size < _; simp)).trans k1⟩ : _ ∧ _))) | (go_at_call 26; refine (V _).mono ?_; rintro e w3 ⟨rfl, hb3⟩; obtain ⟨k0'', k1''⟩ := ((⟨(hb3.cell (p := ⟨W0.heap.size, 0, none⟩) (by show W0.heap.size < _; have := hb2.size; simp at this; omega)).trans k0', (hb3.cell (p := ⟨W0.heap.size, 1, none⟩) (by show W0.heap.size < _; have := hb2.size; simp at this; omega)).trans k1'⟩ : _ ∧ _))))
                  have hJ3 := (hJ.on hba).on (hb2.trans (hb3.mono hb2.size))
                  have hI3 := (hIa.on hb2).on hb3
                  have hs3 : W0.heap.size < w3.heap.size := by have h8 := hb2.size; have h9 := hb3.size; simp at h8; omega
                  go_loopw [16, 17] (fun rv kv wq => ∃ (j : Nat), j ≤ (xn - ind).toNat ∧ kv = .int .i64 (ind + j) ∧ Owns wq w3.heap.size rv (List.replicate j 32) ∧ Below w3.heap.size w3 wq ∧ ∃ a m c, rv = .slice a m c) (fun _ kv _ => (xn - intOf kv).toNat)
                  case atStart => exact ⟨0, Nat.zero_le _, by simp, World.ownsRow_nil _ _ 3 1, Below.refl _ _, _, _, _, rfl⟩
                  case round =>
                    obtain ⟨j, hj, rfl, hO, hbq, ra, rm, rc, rfl⟩ := hrel
                    have kq0 := (hbq.cell (p := ⟨W0.heap.size, 0, none⟩) hs3).trans k0''
                    have kq1 := (hbq.cell (p := ⟨W0.heap.size, 1, none⟩) hs3).trans k1''
                    by_cases hjd : j < (xn - ind).toNat
                    · have hjx : ind + (j : Int) < xn := by omega
                      obtain ⟨v7, w7, AP, o7, b7⟩ := push1w hO hbq.size (by simp; omega) 32
                      rw [show List.replicate j (32 : Int) ++ [32] = List.replicate (j + 1) 32 from (List.replicate_succ' ..).symm] at o7
                      obtain ⟨a7, m7, c7, rfl⟩ := ownsRow_form o7
                      go_wp2_with (first | (at_builtin; refine wpList_append_run (u := .slice ra rm rc) rfl _ _ 22 rfl rfl rfl AP ?_))
                      go_roundw
                      case rel => exact ⟨j + 1, by omega, by go_num, o7, hbq.trans b7, _, _, _, rfl⟩
                      case measure => simp [intOf]; omega
                    · obtain rfl : j = (xn - ind).toNat := by omega
                      have hjx : ¬ ind + (((xn - ind).toNat : Nat) : Int) < xn := by omega
                      obtain ⟨v7, w7, AP, o7, g7⟩ := pushL xc hO hbq.size (by simp; omega) (hI3.on hbq)
                      have b7 := owns_below hO g7 (Nat.le_refl _) hbq.size
                      obtain ⟨a7, m7, c7, rfl⟩ := ownsRow_form o7
                      obtain ⟨r1, r2, r3, r4⟩ := is_of_row o7
                      subst r2
                      have hJ7 := hJ3.on (hbq.trans b7)
                      obtain ⟨v8, w8, AP8, hJ8, a8, m8, c8, rfl⟩ := hJ7.push (r := ⟨a7, List.replicate (xn - ind).toNat 32 ++ xt, c7⟩) ⟨r3, r4, r1, owns_pcw o7 _⟩ HT1.out (by have := HC.out.pl; have := HC.out.le; omega)
                      unfold rowV at AP8
                      dsimp only at AP8
                      generalize (xn - ind).toNat = dd at AP AP8 hjx
                      generalize (List.replicate dd (32 : Int) ++ xt).length = ll at AP AP8
                      go_wp2_with (first | (at_builtin; refine wpList_append_run (u := .slice ra rm rc) rfl _ _ 22 rfl rfl rfl AP ?_) | (at_builtin; refine wpList_append_run (u := .slice va vm vc) rfl _ _ 41 rfl rfl rfl AP8 ?_))
                      go_roundw
                      case rel => exact ⟨k + 1, by omega, by go_num, HV1, hJ8, _, _, _, rfl⟩
                      case measure => simp [intOf]; omega
                · have he : endsP ind xn xt = true := by rw [HE.out]; simp [hv, hmm]
                  have hmp : 0 < mm := by omega
                  obtain rfl := HS0.out he
                  clear he HE HS0 HG HV hmv hv hmm
                  cases f with
                  | false =>
                    go_wp2_with (first | (go_at_call 25; refine (M _ hIa).mono ?_; rintro e w2 ⟨rfl, hb2⟩; obtain ⟨k0', k1'⟩ := ((⟨(hb2.cell (p := ⟨W0.heap.size, 0, none⟩) (by show W0.heap.size < _; simp)).trans k0, (hb2.cell (p := ⟨W0.heap.size, 1, none⟩) (by show W0.heap.size < _; simp)).trans k1⟩ : _ ∧ _))) | (go_at_call 26; refine (V _).mono ?_; rintro e w3 ⟨rfl, hb3⟩; obtain ⟨k0'', k1''⟩ := ((⟨(hb3.cell (p := ⟨W0.heap.size, 0, none⟩) (by show W0.heap.size < _; have := hb2.size; simp at this; omega)).trans k0', (hb3.cell (p := ⟨W0.heap.size, 1, none⟩) (by show W0.heap.size < _; have := hb2.size; simp at this; omega)).trans k1'⟩ : _ ∧ _)); have hJ3 := (hJ.on hba).on (hb2.trans (hb3.mono hb2.size)); obtain ⟨R, oR, tR, pR⟩ := hJ3.rows; obtain ⟨hMt, hvm⟩ := mt_of oR pR; subst hvm; obtain ⟨hw, hwl, hS, hRl⟩ := refText false HC.out tR; have HRl : Hid (R.length = N) := hRl; have hbJ := hJ3.below; obtain ⟨z0, z1, z2⟩ := hJ3.hd.cells; have LT := refLiteral_any va R vc ch w3 hS hMt; have hHd := hJ3.hd; have hw' : wholeT alwaysP R ch = rT := hw; rw [hw'] at LT; clear hw hw' tR pR hMt oR hRl) | (go_at_call 27; refine LT.mono ?_; rintro e w4 ⟨v4, rfl, ho4, hb4⟩; obtain ⟨q4, m4, c4, rfl⟩ := ownsRow_form ho4; obtain ⟨i4, rfl, -, -⟩ := is_of_row ho4; obtain ⟨y0, y1, y2⟩ := (hHd.on hb4).cells) | (go_at_call 15; refine (refBytes_any q4 rT c4 w4 (by omega) i4 i4.lt).mono ?_; rintro e w5 ⟨v5, rfl, ho5, hb5⟩; have CV := own_string ho5 (encZ_byte rT); obtain ⟨q5, m5, c5, rfl⟩ := ownsRow_form ho5))
                    go_ret3
                    exact ⟨by rw [← HRl.out]; rfl, hbJ.trans ((hb4.trans (hb5.mono hb4.size)).mono hbJ.size)⟩
                  | true =>
                    go_wp2_with (first | (go_at_call 25; refine (M _ hIa).mono ?_; rintro e w2 ⟨rfl, hb2⟩; obtain ⟨k0', k1'⟩ := ((⟨(hb2.cell (p := ⟨W0.heap.size, 0, none⟩) (by show W0.heap.size < _; simp)).trans k0, (hb2.cell (p := ⟨W0.heap.size, 1, none⟩) (by show W0.heap.size < _; simp)).trans k1⟩ : _ ∧ _))) | (go_at_call 26; refine (V _).mono ?_; rintro e w3 ⟨rfl, hb3⟩; obtain ⟨k0'', k1''⟩ := ((⟨(hb3.cell (p := ⟨W0.heap.size, 0, none⟩) (by show W0.heap.size < _; have := hb2.size; simp at this; omega)).trans k0', (hb3.cell (p := ⟨W0.heap.size, 1, none⟩) (by show W0.heap.size < _; have := hb2.size; simp at this; omega)).trans k1'⟩ : _ ∧ _)); have hJ3 := (hJ.on hba).on (hb2.trans (hb3.mono hb2.size)); obtain ⟨R, oR, tR, pR⟩ := hJ3.rows; obtain ⟨hMt, hvm⟩ := mt_of oR pR; subst hvm; obtain ⟨hw, hwl, hS, hRl⟩ := refText true HC.out tR; have HRl : Hid (R.length = N) := hRl; have hbJ := hJ3.below; obtain ⟨z0, z1, z2⟩ := hJ3.hd.cells; have LT := refLiteral_any va R vc ch w3 hS hMt; have hHd := hJ3.hd; have hw' : wholeT spacedP R ch = rT := hw; have BL := fun W4 (h : Below w3.heap.size w3 W4) => refBlock_any va R vc ch W4 hS (hMt.on h); rw [hw'] at BL; generalize wholeT alwaysP R ch = T1 at LT; clear hw hw' tR pR hMt oR hRl) | (go_at_call 27; refine LT.mono ?_; rintro e w4 ⟨v4, rfl, ho4, hb4⟩; obtain ⟨q4, m4, c4, rfl⟩ := ownsRow_form ho4; obtain ⟨y0, y1, y2⟩ := (hHd.on hb4).cells) | (go_at_call 28; refine (BL _ hb4).mono ?_; rintro e w6 ⟨v6, rfl, ho6, hb6⟩; obtain ⟨q6, m6, c6, rfl⟩ := ownsRow_form ho6; obtain ⟨i6, rfl, -, -⟩ := is_of_row ho6) | (go_at_call 15; refine (refBytes_any q6 rT c6 w6 (by omega) i6 i6.lt).mono ?_; rintro e w5 ⟨v5, rfl, ho5, hb5⟩; have CV := own_string ho5 (encZ_byte rT); obtain ⟨q5, m5, c5, rfl⟩ := ownsRow_form ho5))
                    go_ret3
                    exact ⟨by rw [← HRl.out]; rfl, hbJ.trans (((hb4.trans (hb6.mono hb4.size)).trans (hb5.mono (Nat.le_trans hb4.size hb6.size))).mono hbJ.size)⟩
          · obtain rfl : k = L.length := by omega
            obtain rfl : N = L.length := HC.out.n.symm.trans (tk_eq ind L _ hk HV.out (fun y hy => by simp at hy))
            clear HV
            obtain ⟨R, oR, tR, pR⟩ := hJ.rows
            obtain ⟨hMt, hvm⟩ := mt_of oR pR
            subst hvm
            obtain ⟨hw, hwl, hS, hRl⟩ := refText f HC.out tR
            have HRl : Hid (R.length = L.length) := hRl
            have hbJ := hJ.below
            obtain ⟨z0, z1, z2⟩ := hJ.hd.cells
            have LT := refLiteral_any va R vc ch W0 hS hMt
            have hHd := hJ.hd
            cases f with
            | false =>
              have hw' : wholeT alwaysP R ch = rT := hw
              rw [hw'] at LT
              clear hw hw' tR pR hMt oR hRl
              go_wp2_with (first | (go_at_call 27; refine LT.mono ?_; rintro e w4 ⟨v4, rfl, ho4, hb4⟩; obtain ⟨q4, m4, c4, rfl⟩ := ownsRow_form ho4; obtain ⟨i4, rfl, -, -⟩ := is_of_row ho4; obtain ⟨y0, y1, y2⟩ := (hHd.on hb4).cells) | (go_at_call 15; refine (refBytes_any q4 rT c4 w4 (by omega) i4 i4.lt).mono ?_; rintro e w5 ⟨v5, rfl, ho5, hb5⟩; have CV := own_string ho5 (encZ_byte rT); obtain ⟨q5, m5, c5, rfl⟩ := ownsRow_form ho5))
              go_ret3
              exact ⟨by rw [← HRl.out]; rfl, hbJ.trans ((hb4.trans (hb5.mono hb4.size)).mono hbJ.size)⟩
            | true =>
              have hw' : wholeT spacedP R ch = rT := hw
              have BL := fun W4 (h : Below (W0).heap.size (W0) W4) => refBlock_any va R vc ch W4 hS (hMt.on h)
              rw [hw'] at BL
              generalize wholeT alwaysP R ch = T1 at LT
              clear hw hw' tR pR hMt oR hRl
              go_wp2_with (first | (go_at_call 27; refine LT.mono ?_; rintro e w4 ⟨v4, rfl, ho4, hb4⟩; obtain ⟨q4, m4, c4, rfl⟩ := ownsRow_form ho4; obtain ⟨y0, y1, y2⟩ := (hHd.on hb4).cells) | (go_at_call 28; refine (BL _ hb4).mono ?_; rintro e w6 ⟨v6, rfl, ho6, hb6⟩; obtain ⟨q6, m6, c6, rfl⟩ := ownsRow_form ho6; obtain ⟨i6, rfl, -, -⟩ := is_of_row ho6) | (go_at_call 15; refine (refBytes_any q6 rT c6 w6 (by omega) i6 i6.lt).mono ?_; rintro e w5 ⟨v5, rfl, ho5, hb5⟩; have CV := own_string ho5 (encZ_byte rT); obtain ⟨q5, m5, c5, rfl⟩ := ownsRow_form ho5))
              go_ret3
              exact ⟨by rw [← HRl.out]; rfl, hbJ.trans (((hb4.trans (hb6.mono hb4.size)).trans (hb5.mono (Nat.le_trans hb4.size hb6.size))).mono hbJ.size)⟩


set_option maxRecDepth 100000 in
set_option maxHeartbeats 2000000 in
theorem rRead_none (f : Bool) (ch more n : Int) (p : Option Addr) (L : List Ln) (cap : Nat) (w : World) (hB : Bnd L) (hL : Ls w p L) (hn : n ≤ 1000) (hm0 : 0 ≤ more) (hm1 : more ≤ 9) (hind : indP L more (max n (-1)) = none) :
    Calls Try.prog 13 #[.slice p L.length cap, .agg #[.bool f, .int .i64 ch, .int .i64 more], .int .i64 n] w fun e w' => e = .returned (.tuple #[.string ⟨#[]⟩, .int .i64 0, .int .i64 7]) ∧ Below w.heap.size w w' := by
  obtain rfl : more = 0 := by
    unfold indP at hind
    split at hind
    · cases hind
    · omega
  have hb0 : Below w.heap.size w (w.alloc (.cells #[.bool f, .int .i64 ch, .int .i64 0] 29)) := (Below.refl _ w).alloc (Nat.le_refl _) _
  have DT := detect_any p L cap (max n (-1)) _ hB (hL.on hb0) (by omega) (by omega)
  unfold DetQ at DT
  rw [hind] at DT
  unfold detV at DT
  dsimp only at DT
  have HB : Hid _ := hb0
  clear hb0 hind hL hB
  by_cases h : n < -1
  · rw [show max n (-1) = -1 by omega] at DT
    go_enter Try.func13, Try.ntmps13
    go_wp2_with (first | (go_at_call 24; refine DT.mono ?_; rintro e w2 ⟨rfl, hb2⟩))
    go_ret3
    exact ⟨rfl, HB.out.trans (hb2.mono (by simp))⟩
  · rw [show max n (-1) = n by omega] at DT
    by_cases h0 : n < 0
    · go_enter Try.func13, Try.ntmps13
      go_wp2_with (first | (go_at_call 24; refine DT.mono ?_; rintro e w2 ⟨rfl, hb2⟩))
      go_ret3
      exact ⟨rfl, HB.out.trans (hb2.mono (by simp))⟩
    · go_enter Try.func13, Try.ntmps13
      go_wp2_with (first | (go_at_call 24; refine DT.mono ?_; rintro e w2 ⟨rfl, hb2⟩))
      go_ret3
      exact ⟨rfl, HB.out.trans (hb2.mono (by simp))⟩

theorem rRead_any (f : Bool) (ch more n : Int) (p : Option Addr) (L : List Ln) (cap : Nat) (w : World) (hB : Bnd L) (hL : Ls w p L) (hn : n ≤ 1000) (hm0 : 0 ≤ more) (hm1 : more ≤ 9) :
    Calls Try.prog 13 #[.slice p L.length cap, .agg #[.bool f, .int .i64 ch, .int .i64 more], .int .i64 n] w fun e w' => e = .returned (readV f ch more n L) ∧ Below w.heap.size w w' := by
  unfold readV
  cases h : indP L more (max n (-1)) with
  | none => exact rRead_none f ch more n p L cap w hB hL hn hm0 hm1 h
  | some ind => exact rRead_some f ch more n p L cap w ind _ _ _ hB hL hn hm0 hm1 h (rbc_of f ch ind hB (indP_bnd hB (by omega) (by omega) hm0 hm1 h).1)
end Go.Proofs.Ytgmcomfeggidnaa
