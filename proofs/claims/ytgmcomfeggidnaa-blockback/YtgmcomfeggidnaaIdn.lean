/- How many blanks do not belong to the text: leading and indentOf. -/
import Derived.Test.YtgmcomfeggidnaaLns
set_option linter.unusedVariables false
set_option linter.unusedSimpArgs false
namespace Go.Proofs.Ytgmcomfeggidnaa
open Go.RowKit

def leadN : List Ln → Nat
  | [] => 0
  | x :: r => if x.t.length = 0 then leadN r + 1 else 0
def wideN (L : List Ln) (k : Nat) : Int := (L.take k).foldl (fun m x => max m x.n) 0

theorem lead_eq : ∀ (L : List Ln) (k : Nat), k ≤ L.length → (∀ (j : Nat) (x : Ln), j < k → L[j]? = some x → x.t.length = 0) → (∀ x : Ln, L[k]? = some x → ¬ x.t.length = 0) → leadN L = k
  | [], k, hk, _, _ => by simp at hk; simp [leadN, hk]
  | y :: r, 0, _, _, h2 => by have := h2 y rfl; simp only [leadN, if_neg this]
  | y :: r, k + 1, hk, h1, h2 => by
    have hy := h1 0 y (by omega) rfl
    have := lead_eq r k (by simp at hk; omega) (fun j x hj hx => h1 (j + 1) x (by omega) (by simpa using hx)) (fun x hx => h2 x (by simpa using hx))
    simp only [leadN, if_pos hy, this]
theorem lead_le : ∀ L : List Ln, leadN L ≤ L.length
  | [] => by simp [leadN]
  | y :: r => by have := lead_le r; unfold leadN; split <;> simp <;> omega
theorem lead_void : ∀ (L : List Ln) (j : Nat) (x : Ln), j < leadN L → L[j]? = some x → x.t.length = 0
  | [], j, x, hj, _ => by simp [leadN] at hj
  | y :: r, j, x, hj, hx => by
    unfold leadN at hj
    split at hj
    · rename_i h
      cases j with
      | zero => simp at hx; subst hx; exact h
      | succ j => exact lead_void r j x (by omega) (by simpa using hx)
    · omega
theorem lead_at : ∀ (L : List Ln) (x : Ln), L[leadN L]? = some x → ¬ x.t.length = 0
  | [], x, hx => by simp at hx
  | y :: r, x, hx => by
    unfold leadN at hx
    split at hx
    · exact lead_at r x (by simpa using hx)
    · rename_i h
      simp at hx; subst hx; exact h
theorem wide_succ {L : List Ln} {k : Nat} {x : Ln} (h : L[k]? = some x) : wideN L (k + 1) = max (wideN L k) x.n := by
  obtain ⟨h1, h2⟩ := List.getElem?_eq_some_iff.1 h
  unfold wideN
  rw [List.take_succ_eq_append_getElem h1, List.foldl_append, h2]
  rfl

theorem mx (a b : Int) : (if a < b then b else a) = max a b := by split <;> omega
/-- Lines of an ordinary size. -/
def Bnd (L : List Ln) : Prop := L.length ≤ 100 ∧ ∀ (j : Nat) (x : Ln), L[j]? = some x → 0 ≤ x.n ∧ x.n ≤ 1000 ∧ x.t.length ≤ 1000

theorem wide_bnd {L : List Ln} (h : Bnd L) : ∀ k, k ≤ L.length → 0 ≤ wideN L k ∧ wideN L k ≤ 1000
  | 0, _ => by simp [wideN]
  | k + 1, hk => by
    obtain ⟨x, hx⟩ : ∃ x, L[k]? = some x := ⟨_, List.getElem?_eq_getElem (by omega)⟩
    have h1 := wide_bnd h k (by omega)
    have h2 := h.2 k x hx
    rw [wide_succ hx]
    omega

set_option maxRecDepth 100000 in
set_option maxHeartbeats 2000000 in
theorem leading_any (p : Option Addr) (L : List Ln) (cap : Nat) (w : World) (hB : Bnd L) (hL : Ls w p L) :
    Calls Try.prog 33 #[.slice p L.length cap] w fun e w' => e = .returned (.tuple #[.int .i64 (leadN L : Nat), .int .i64 (wideN L (leadN L))]) ∧ Below w.heap.size w w' := by
  have hn2 : (L.length : Int) ≤ 1000 := by have := hB.1; omega
  obtain ⟨N, hN⟩ : ∃ N, leadN L = N := ⟨_, rfl⟩
  obtain ⟨M, hM⟩ : ∃ M, wideN L (leadN L) = M := ⟨_, rfl⟩
  have HN : Hid (leadN L = N) := hN
  have HM : Hid (wideN L N = M) := by show _ = _; rw [← hN]; exact hM
  rw [hN] at hM ⊢
  rw [hM]
  clear hN hM
  go_enter Try.func33, Try.ntmps33
  go_wp2
  go_loopw [2, 3] (fun cv wv wr => ∃ (k : Nat), k ≤ L.length ∧ cv = .int .i64 k ∧ wv = .int .i64 (wideN L k) ∧ Hid (∀ (j : Nat) (x : Ln), j < k → L[j]? = some x → x.t.length = 0) ∧ Below w.heap.size w wr) (fun cv _ _ => L.length - (intOf cv).toNat)
  case atStart => exact ⟨0, Nat.zero_le _, rfl, rfl, fun j x hj => by omega, Below.refl _ _⟩
  case round =>
    obtain ⟨k, hk, rfl, rfl, HV, hb⟩ := hrel
    by_cases hlt : k < L.length
    · have hli : (k : Int) < L.length := by omega
      obtain ⟨x, hx⟩ : ∃ x, L[k]? = some x := ⟨_, List.getElem?_eq_getElem hlt⟩
      have hLr := hL.on hb
      obtain ⟨b, o, rfl, hc⟩ := hLr.at (by omega)
      obtain ⟨c0, c1⟩ := hc k x hx
      obtain ⟨x0, x1, x2⟩ := hB.2 k x hx
      have hw0 := wide_bnd hB k hk
      have V := void_any x.n x.q x.t.length x.c
      have HW : Hid (wideN L (k + 1) = max (wideN L k) x.n) := wide_succ hx
      have hbk := hLr.lt _ rfl (by omega)
      by_cases hv : x.t.length = 0
      · have HV' : Hid (∀ (j : Nat) (x : Ln), j < k + 1 → L[j]? = some x → x.t.length = 0) := fun j y hj hy => by
          by_cases e : j = k
          · subst e; rw [hx] at hy; cases hy; exact hv
          · exact HV.out j y (by omega) hy
        rw [decide_eq_true hv] at V
        clear hc hx hv hLr
        obtain ⟨xn, xq, xt, xc⟩ := x
        dsimp only at c0 c1 V x0 x1 x2 HW
        generalize xt.length = xl at c1 V x2
        generalize wideN L k = wk at HW hw0
        go_wp2_with (first | (go_at_call 46; refine (V _).mono ?_; rintro e w2 ⟨rfl, hb2⟩; have c0' := (hb2.cell (p := ⟨b, o + k * 2, none⟩) hbk).trans c0))
        go_roundw
        case rel => exact ⟨k + 1, by omega, by go_num, by rw [HW.out, mx], HV', hb.trans (hb2.mono hb.size)⟩
        case measure => simp [intOf]; omega
      · obtain rfl : N = k := by
          rw [← HN.out]
          exact lead_eq L k hk HV.out (fun y hy => by rw [hx] at hy; cases hy; exact hv)
        rw [decide_eq_false hv] at V
        clear hc hx hv hLr
        obtain ⟨xn, xq, xt, xc⟩ := x
        dsimp only at c0 c1 V x0 x1 x2 HW
        generalize xt.length = xl at c1 V x2
        go_wp2_with (first | (go_at_call 46; refine (V _).mono ?_; rintro e w2 ⟨rfl, hb2⟩))
        go_ret2
        exact ⟨by have := HM.out; subst this; rfl, hb.trans (hb2.mono hb.size)⟩
    · obtain rfl : k = L.length := by omega
      obtain rfl : N = L.length := by
        rw [← HN.out]
        exact lead_eq L _ hk HV.out (fun y hy => by simp at hy)
      go_wp2
      go_ret2
      exact ⟨by have := HM.out; subst this; rfl, hb⟩

/-- How many blanks do not belong to the text; none: the lines are wrong. -/
def indP (L : List Ln) (more n : Int) : Option Int :=
  if 0 < more then some (max n 0 + more) else
  match L[leadN L]? with
  | none => some (max (n + 1) (wideN L (leadN L)))
  | some x => if n < x.n ∧ markP x.n x.t = 0 then (if x.n < wideN L (leadN L) then none else some x.n) else some (max (n + 1) (wideN L (leadN L)))
def indV : Option Int → Value
  | some i => .tuple #[.int .u64 i, .int .i64 0]
  | none => .tuple #[.int .u64 0, .int .i64 7]

theorem indP_bnd {L : List Ln} (hB : Bnd L) {more n i : Int} (h0 : -1 ≤ n) (h1 : n ≤ 1000) (h2 : 0 ≤ more) (h3 : more ≤ 9) (h : indP L more n = some i) : 0 ≤ i ∧ i ≤ 2000 := by
  have hw := wide_bnd hB (leadN L) (lead_le L)
  unfold indP at h
  split at h
  · cases h; omega
  · split at h
    · cases h; omega
    · rename_i x hx
      have := hB.2 _ x hx
      split at h
      · split at h
        · cases h
        · cases h; omega
      · cases h; omega

set_option maxRecDepth 100000 in
set_option maxHeartbeats 2000000 in
theorem indentOf_more (p : Option Addr) (len cap : Nat) (L : List Ln) (more n : Int) (w : World) (h0 : -1 ≤ n) (h1 : n ≤ 1000) (h2 : 0 < more) (h3 : more ≤ 9) :
    Calls Try.prog 20 #[.slice p len cap, .int .i64 more, .int .i64 n] w fun e w' => e = .returned (indV (indP L more n)) ∧ Below w.heap.size w w' := by
  have e : indP L more n = some (max n 0 + more) := by unfold indP; rw [if_pos h2]
  rw [e]
  by_cases hn : n < 0
  · rw [show max n 0 + more = more by omega]
    go_enter Try.func20, Try.ntmps20
    go_wp2
    go_ret2
    exact ⟨by unfold indV; simp, Below.refl _ _⟩
  · rw [show max n 0 + more = n + more by omega]
    go_enter Try.func20, Try.ntmps20
    go_wp2
    go_ret2
    exact ⟨by unfold indV; simp, Below.refl _ _⟩

theorem u0 : IntKind.u64.wrap (IntKind.u64.wrap (-1) + 1) = 0 := by decide
theorem indV_some {i j : Int} (h : i = j) : Ending.returned (.tuple #[.int .u64 i, .int .i64 0]) = .returned (indV (some j)) := by rw [h]; rfl

set_option maxRecDepth 100000 in
set_option maxHeartbeats 2000000 in
theorem indentOf_none (p : Option Addr) (L : List Ln) (cap : Nat) (n : Int) (w : World) (hB : Bnd L) (hL : Ls w p L) (h0 : -1 ≤ n) (h1 : n ≤ 1000) (hN : leadN L = L.length) :
    Calls Try.prog 20 #[.slice p L.length cap, .int .i64 0, .int .i64 n] w fun e w' => e = .returned (indV (indP L 0 n)) ∧ Below w.heap.size w w' := by
  have LD := leading_any p L cap w hB hL
  have hw := wide_bnd hB (leadN L) (lead_le L)
  have hlen := hB.1
  have e : indP L 0 n = some (max (n + 1) (wideN L (leadN L))) := by
    unfold indP
    rw [if_neg (by decide), List.getElem?_eq_none (by omega)]
  rw [e]
  rw [hN] at LD hw ⊢
  generalize wideN L L.length = wd at LD hw ⊢
  obtain ⟨hw0, hw1⟩ := hw
  clear hL hB e hN
  generalize L.length = len at LD hlen ⊢
  by_cases hn : n = -1
  · subst hn
    go_enter Try.func20, Try.ntmps20
    go_wp2_with (first | (go_at_call 33; refine LD.mono ?_; rintro e w2 ⟨rfl, hb2⟩))
    all_goals
      go_ret2
      exact ⟨indV_some (by simp only [u0] at *; omega), hb2⟩
  · have hn0 : 0 ≤ n := by omega
    go_enter Try.func20, Try.ntmps20
    go_wp2_with (first | (go_at_call 33; refine LD.mono ?_; rintro e w2 ⟨rfl, hb2⟩))
    all_goals
      go_ret2
      exact ⟨indV_some (by omega), hb2⟩

set_option maxRecDepth 100000 in
set_option maxHeartbeats 2000000 in
theorem indentOf_some (p : Option Addr) (L : List Ln) (cap : Nat) (n : Int) (w : World) (x : Ln) (hB : Bnd L) (hL : Ls w p L) (h0 : -1 ≤ n) (h1 : n ≤ 1000) (hx : L[leadN L]? = some x) :
    Calls Try.prog 20 #[.slice p L.length cap, .int .i64 0, .int .i64 n] w fun e w' => e = .returned (indV (indP L 0 n)) ∧ Below w.heap.size w w' := by
  have LD := leading_any p L cap w hB hL
  have hw := wide_bnd hB (leadN L) (lead_le L)
  have hlen := hB.1
  have hlt := (List.getElem?_eq_some_iff.1 hx).1
  have hli : (leadN L : Int) < L.length := by omega
  have hne : ¬ (leadN L : Int) = L.length := by omega
  obtain ⟨b, o, rfl, hc⟩ := hL.at (by omega)
  obtain ⟨c0, c1⟩ := hc _ x hx
  obtain ⟨x0, x1, x2⟩ := hB.2 _ x hx
  obtain ⟨x3, x4, hI⟩ := hL.1 _ x hx
  have hbk := hL.lt _ rfl (by omega)
  have WI := fun W hW => within_any x.n n x.q x.t x.c W (by unfold maxLen at x4; omega) hW
  unfold indP
  rw [if_neg (by decide), hx]
  dsimp only
  generalize wideN L (leadN L) = wd at LD hw ⊢
  obtain ⟨hw0, hw1⟩ := hw
  generalize leadN L = N at LD hlt hli hne c0 c1 hx ⊢
  clear hL hB hc hx
  obtain ⟨xn, xq, xt, xc⟩ := x
  dsimp only at c0 c1 x0 x1 x2 x3 x4 hI WI ⊢
  by_cases hin : n < xn ∧ markP xn xt = 0
  · rw [if_pos hin]
    rw [decide_eq_true hin.1, decide_eq_true hin.2] at WI
    clear hin
    by_cases hwx : xn < wd
    · rw [if_pos hwx]
      go_enter Try.func20, Try.ntmps20
      go_wp2_with (first | (go_at_call 33; refine LD.mono ?_; rintro e w2 ⟨rfl, hb2⟩; have c0' := (hb2.cell (p := ⟨b, o + N * 2, none⟩) hbk).trans c0; have c1' := (hb2.cell (p := ⟨b, o + N * 2 + 1, none⟩) hbk).trans c1; have hI2 := hI.on hb2; have hbk2 := Nat.lt_of_lt_of_le hbk hb2.size) | (go_at_call 34; refine (WI _ hI2).mono ?_; rintro e w3 ⟨rfl, hb3⟩; have c0'' := (hb3.cell (p := ⟨b, o + N * 2, none⟩) hbk2).trans c0'))
      go_ret2
      exact ⟨rfl, hb2.trans (hb3.mono hb2.size)⟩
    · rw [if_neg hwx]
      go_enter Try.func20, Try.ntmps20
      go_wp2_with (first | (go_at_call 33; refine LD.mono ?_; rintro e w2 ⟨rfl, hb2⟩; have c0' := (hb2.cell (p := ⟨b, o + N * 2, none⟩) hbk).trans c0; have c1' := (hb2.cell (p := ⟨b, o + N * 2 + 1, none⟩) hbk).trans c1; have hI2 := hI.on hb2; have hbk2 := Nat.lt_of_lt_of_le hbk hb2.size) | (go_at_call 34; refine (WI _ hI2).mono ?_; rintro e w3 ⟨rfl, hb3⟩; have c0'' := (hb3.cell (p := ⟨b, o + N * 2, none⟩) hbk2).trans c0'))
      go_ret2
      exact ⟨indV_some rfl, hb2.trans (hb3.mono hb2.size)⟩
  · rw [if_neg hin]
    have hin' : (decide (n < xn) && decide (markP xn xt = 0)) = false := by
      rw [Bool.eq_false_iff]
      simpa using hin
    rw [hin'] at WI
    clear hin hin'
    by_cases hn : n = -1
    · subst hn
      go_enter Try.func20, Try.ntmps20
      go_wp2_with (first | (go_at_call 33; refine LD.mono ?_; rintro e w2 ⟨rfl, hb2⟩; have c0' := (hb2.cell (p := ⟨b, o + N * 2, none⟩) hbk).trans c0; have c1' := (hb2.cell (p := ⟨b, o + N * 2 + 1, none⟩) hbk).trans c1; have hI2 := hI.on hb2; have hbk2 := Nat.lt_of_lt_of_le hbk hb2.size) | (go_at_call 34; refine (WI _ hI2).mono ?_; rintro e w3 ⟨rfl, hb3⟩; have c0'' := (hb3.cell (p := ⟨b, o + N * 2, none⟩) hbk2).trans c0'))
      all_goals
        go_ret2
        exact ⟨indV_some (by simp only [u0] at *; omega), hb2.trans (hb3.mono hb2.size)⟩
    · have hn0 : 0 ≤ n := by omega
      go_enter Try.func20, Try.ntmps20
      go_wp2_with (first | (go_at_call 33; refine LD.mono ?_; rintro e w2 ⟨rfl, hb2⟩; have c0' := (hb2.cell (p := ⟨b, o + N * 2, none⟩) hbk).trans c0; have c1' := (hb2.cell (p := ⟨b, o + N * 2 + 1, none⟩) hbk).trans c1; have hI2 := hI.on hb2; have hbk2 := Nat.lt_of_lt_of_le hbk hb2.size) | (go_at_call 34; refine (WI _ hI2).mono ?_; rintro e w3 ⟨rfl, hb3⟩; have c0'' := (hb3.cell (p := ⟨b, o + N * 2, none⟩) hbk2).trans c0'))
      all_goals
        go_ret2
        exact ⟨indV_some (by omega), hb2.trans (hb3.mono hb2.size)⟩

theorem indentOf_any (p : Option Addr) (L : List Ln) (cap : Nat) (more n : Int) (w : World) (hB : Bnd L) (hL : Ls w p L) (h0 : -1 ≤ n) (h1 : n ≤ 1000) (h2 : 0 ≤ more) (h3 : more ≤ 9) :
    Calls Try.prog 20 #[.slice p L.length cap, .int .i64 more, .int .i64 n] w fun e w' => e = .returned (indV (indP L more n)) ∧ Below w.heap.size w w' := by
  by_cases hm : 0 < more
  · exact indentOf_more p L.length cap L more n w h0 h1 hm h3
  · obtain rfl : more = 0 := by omega
    cases hx : L[leadN L]? with
    | none =>
      have h4 := List.getElem?_eq_none_iff.1 hx
      have h5 := lead_le L
      exact indentOf_none p L cap n w hB hL h0 h1 (by omega)
    | some x => exact indentOf_some p L cap n w x hB hL h0 h1 hx
end Go.Proofs.Ytgmcomfeggidnaa
