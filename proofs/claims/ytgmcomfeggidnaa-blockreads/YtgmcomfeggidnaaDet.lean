/- The document's detect, as it runs. -/
import Derived.Test.YtgmcomfeggidnaaIdn
set_option linter.unusedVariables false
set_option linter.unusedSimpArgs false
namespace Go.Proofs.Ytgmcomfeggidnaa
open Go.RowKit

def detV : Option Int → Value
  | some i => .tuple #[.int .i64 i, .int .i64 0]
  | none => .tuple #[.int .i64 0, .int .i64 7]
theorem mark_nn (i : Int) (t : List Int) : 0 ≤ markP i t := by
  unfold markP
  split
  · omega
  · split
    · omega
    · split <;> omega
def DetQ (L : List Ln) (n : Int) (w : World) (e : Ending) (w' : World) : Prop := e = .returned (detV (indP L 0 n)) ∧ Below w.heap.size w w'

theorem det_stop {L : List Ln} {n : Int} {x : Ln} (hx : L[leadN L]? = some x) (h : ¬ (n < x.n ∧ markP x.n x.t = 0)) : indP L 0 n = some (max (n + 1) (wideN L (leadN L))) := by
  unfold indP; rw [if_neg (by decide), hx]; dsimp only; rw [if_neg h]
theorem det_none {L : List Ln} {n : Int} (hx : leadN L = L.length) : indP L 0 n = some (max (n + 1) (wideN L (leadN L))) := by
  unfold indP; rw [if_neg (by decide), List.getElem?_eq_none (by omega)]

set_option maxRecDepth 100000 in
set_option maxHeartbeats 1500000 in
theorem detect_any (p : Option Addr) (L : List Ln) (cap : Nat) (n : Int) (w : World) (hB : Bnd L) (hL : Ls w p L) (h0 : -1 ≤ n) (h1 : n ≤ 1000) :
    Calls Try.prog 24 #[.slice p L.length cap, .int .i64 n] w (DetQ L n w) := by
  have hn2 : (L.length : Int) ≤ 100 := by have := hB.1; omega
  go_enter Try.func24, Try.ntmps24
  go_wp2
  go_loopw [7, 8] (fun wv iv wr => ∃ (k : Nat), k ≤ L.length ∧ iv = .int .i64 k ∧ wv = .int .i64 (wideN L k) ∧ Hid (∀ (j : Nat) (x : Ln), j < k → L[j]? = some x → x.t.length = 0) ∧ Below w.heap.size w wr) (fun _ iv _ => L.length - (intOf iv).toNat)
  case atStart => exact ⟨0, Nat.zero_le _, rfl, rfl, fun j x hj => by omega, Below.refl _ _⟩
  case round =>
    obtain ⟨k, hk, rfl, rfl, HV, hb⟩ := hrel
    obtain ⟨hw0, hw1⟩ := wide_bnd hB k hk
    by_cases hlt : k < L.length
    · have hli : (k : Int) < L.length := by omega
      obtain ⟨x, hx⟩ : ∃ x, L[k]? = some x := ⟨_, List.getElem?_eq_getElem hlt⟩
      have hLr := hL.on hb
      obtain ⟨b, o, rfl, hc⟩ := hLr.at (by omega)
      obtain ⟨c0, c1⟩ := hc k x hx
      obtain ⟨x0, x1, x2⟩ := hB.2 k x hx
      obtain ⟨x3, x4, hI⟩ := hLr.1 k x hx
      have V := rvoid_any x.n x.q x.t.length x.c
      have HW : Hid (wideN L (k + 1) = max (wideN L k) x.n) := wide_succ hx
      have hbk := hLr.lt _ rfl (by omega)
      dsimp only at hbk
      by_cases hv : x.t.length = 0
      · have HV' : Hid (∀ (j : Nat) (x : Ln), j < k + 1 → L[j]? = some x → x.t.length = 0) := fun j y hj hy => by
          by_cases e : j = k
          · subst e; rw [hx] at hy; cases hy; exact hv
          · exact HV.out j y (by omega) hy
        rw [decide_eq_true hv] at V
        clear hc hx hv hLr hI
        obtain ⟨xn, xq, xt, xc⟩ := x
        dsimp only at c0 c1 V x0 x1 x2 HW
        generalize xt.length = xl at c1 V x2
        generalize wideN L k = wk at HW hw0 hw1
        by_cases hg : wk < xn
        · go_wp2_with (first | (go_at_call 26; refine (V _).mono ?_; rintro e w2 ⟨rfl, hb2⟩; have c0' := (hb2.cell (p := ⟨b, o + k * 2, none⟩) hbk).trans c0))
          go_roundw
          case rel => exact ⟨k + 1, by omega, by go_num, by rw [HW.out, show max wk xn = xn by omega], HV', hb.trans (hb2.mono hb.size)⟩
          case measure => simp [intOf]; omega
        · go_wp2_with (first | (go_at_call 26; refine (V _).mono ?_; rintro e w2 ⟨rfl, hb2⟩; have c0' := (hb2.cell (p := ⟨b, o + k * 2, none⟩) hbk).trans c0))
          go_roundw
          case rel => exact ⟨k + 1, by omega, by go_num, by rw [HW.out, show max wk xn = wk by omega], HV', hb.trans (hb2.mono hb.size)⟩
          case measure => simp [intOf]; omega
      · have hN : leadN L = k := lead_eq L k hk HV.out (fun y hy => by rw [hx] at hy; cases hy; exact hv)
        have HS : Hid (¬ (n < x.n ∧ markP x.n x.t = 0) → indP L 0 n = some (max (n + 1) (wideN L k))) := fun h => by
          have := det_stop (L := L) (n := n) (x := x) (by rw [hN]; exact hx) h
          rw [hN] at this; exact this
        have HI : Hid (n < x.n ∧ markP x.n x.t = 0 → indP L 0 n = if x.n < wideN L k then none else some x.n) := fun h => by
          unfold indP; rw [if_neg (by decide), hN, hx]; dsimp only; rw [if_pos h]
        have M := fun W hW => rmarker_any x.n x.q x.t x.c W (by omega) hW
        have mk0 := mark_nn x.n x.t
        rw [decide_eq_false hv] at V
        clear hc hx hv hLr HV HW hN
        obtain ⟨xn, xq, xt, xc⟩ := x
        dsimp only at c0 c1 V x0 x1 x2 hI HS HI M mk0
        generalize markP xn xt = mm at HS HI M mk0
        generalize wideN L k = wk at HS HI hw0 hw1
        by_cases g1 : xn ≤ n
        · have hS := HS.out (by omega)
          by_cases g3 : n + 1 < wk
          · go_wp2_with (first | (go_at_call 26; refine (V _).mono ?_; rintro e w2 ⟨rfl, hb2⟩; have c0' := (hb2.cell (p := ⟨b, o + k * 2, none⟩) hbk).trans c0))
            go_ret2
            exact ⟨by rw [hS, show max (n + 1) wk = wk by omega]; rfl, hb.trans (hb2.mono hb.size)⟩
          · go_wp2_with (first | (go_at_call 26; refine (V _).mono ?_; rintro e w2 ⟨rfl, hb2⟩; have c0' := (hb2.cell (p := ⟨b, o + k * 2, none⟩) hbk).trans c0))
            go_ret2
            exact ⟨by rw [hS, show max (n + 1) wk = n + 1 by omega]; rfl, hb.trans (hb2.mono hb.size)⟩
        · by_cases g2 : 0 < mm
          · have hS := HS.out (by omega)
            by_cases g3 : n + 1 < wk
            · go_wp2_with (first | (go_at_call 26; refine (V _).mono ?_; rintro e w2 ⟨rfl, hb2⟩; have c0' := (hb2.cell (p := ⟨b, o + k * 2, none⟩) hbk).trans c0; have c1' := (hb2.cell (p := ⟨b, o + k * 2 + 1, none⟩) hbk).trans c1; have hI2 := hI.on hb2) | (go_at_call 25; refine (M _ hI2).mono ?_; rintro e w3 ⟨rfl, hb3⟩))
              go_ret2
              exact ⟨by rw [hS, show max (n + 1) wk = wk by omega]; rfl, hb.trans ((hb2.trans (hb3.mono hb2.size)).mono hb.size)⟩
            · go_wp2_with (first | (go_at_call 26; refine (V _).mono ?_; rintro e w2 ⟨rfl, hb2⟩; have c0' := (hb2.cell (p := ⟨b, o + k * 2, none⟩) hbk).trans c0; have c1' := (hb2.cell (p := ⟨b, o + k * 2 + 1, none⟩) hbk).trans c1; have hI2 := hI.on hb2) | (go_at_call 25; refine (M _ hI2).mono ?_; rintro e w3 ⟨rfl, hb3⟩))
              go_ret2
              exact ⟨by rw [hS, show max (n + 1) wk = n + 1 by omega]; rfl, hb.trans ((hb2.trans (hb3.mono hb2.size)).mono hb.size)⟩
          · have hS := HI.out ⟨by omega, by omega⟩
            by_cases g3 : xn < wk
            · rw [if_pos g3] at hS
              go_wp2_with (first | (go_at_call 26; refine (V _).mono ?_; rintro e w2 ⟨rfl, hb2⟩; have c0' := (hb2.cell (p := ⟨b, o + k * 2, none⟩) hbk).trans c0; have c1' := (hb2.cell (p := ⟨b, o + k * 2 + 1, none⟩) hbk).trans c1; have hI2 := hI.on hb2; have hbk2 := Nat.lt_of_lt_of_le hbk hb2.size) | (go_at_call 25; refine (M _ hI2).mono ?_; rintro e w3 ⟨rfl, hb3⟩; have c0'' := (hb3.cell (p := ⟨b, o + k * 2, none⟩) hbk2).trans c0'))
              go_ret2
              exact ⟨by rw [hS]; rfl, hb.trans ((hb2.trans (hb3.mono hb2.size)).mono hb.size)⟩
            · rw [if_neg g3] at hS
              go_wp2_with (first | (go_at_call 26; refine (V _).mono ?_; rintro e w2 ⟨rfl, hb2⟩; have c0' := (hb2.cell (p := ⟨b, o + k * 2, none⟩) hbk).trans c0; have c1' := (hb2.cell (p := ⟨b, o + k * 2 + 1, none⟩) hbk).trans c1; have hI2 := hI.on hb2; have hbk2 := Nat.lt_of_lt_of_le hbk hb2.size) | (go_at_call 25; refine (M _ hI2).mono ?_; rintro e w3 ⟨rfl, hb3⟩; have c0'' := (hb3.cell (p := ⟨b, o + k * 2, none⟩) hbk2).trans c0'))
              go_ret2
              exact ⟨by rw [hS]; rfl, hb.trans ((hb2.trans (hb3.mono hb2.size)).mono hb.size)⟩
    · obtain rfl : k = L.length := by omega
      have hN : leadN L = L.length := lead_eq L _ hk HV.out (fun y hy => by simp at hy)
      have hS := det_none (n := n) hN
      rw [hN] at hS
      generalize wideN L L.length = wk at hS hw0 hw1
      clear hN HV
      by_cases g3 : n + 1 < wk
      · go_wp2
        go_ret2
        exact ⟨by rw [hS, show max (n + 1) wk = wk by omega]; rfl, hb⟩
      · go_wp2
        go_ret2
        exact ⟨by rw [hS, show max (n + 1) wk = n + 1 by omega]; rfl, hb⟩
end Go.Proofs.Ytgmcomfeggidnaa
