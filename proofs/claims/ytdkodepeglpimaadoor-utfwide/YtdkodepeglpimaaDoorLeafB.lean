/- What first16, first32, first8 and first answer: the code point that bytes begin with, and how many bytes it has. -/
import Derived.Test.YtdkodepeglpimaaDoorLeafA
import Derived.Test.YtdkodepeglpimaaDoorDec
set_option linter.unusedVariables false
set_option linter.unusedSimpArgs false
namespace Go.Proofs.YtdkodepeglpimaaDoor
open Go.RowKit

def bt (l : List UInt8) (j : Nat) : Nat := (l[j]?.getD 0).toNat
theorem bt_lt (l : List UInt8) (j : Nat) : bt l j < 256 := (l[j]?.getD 0).toNat_lt
theorem byteAt_bt (l : List UInt8) (j : Nat) : byteAt l j = (bt l j : Int) := rfl

def u16 (great : Bool) (x0 x1 : Nat) : Nat := if great then x0 * 256 + x1 else x1 * 256 + x0
def u32 (great : Bool) (x0 x1 x2 x3 : Nat) : Nat := if great then x0 * 16777216 + x1 * 65536 + x2 * 256 + x3 else x3 * 16777216 + x2 * 65536 + x1 * 256 + x0
theorem u16_lt (great : Bool) (x0 x1 : Nat) (h0 : x0 < 256) (h1 : x1 < 256) : u16 great x0 x1 < 65536 := by unfold u16; split <;> omega
theorem u32_lt (great : Bool) (x0 x1 x2 x3 : Nat) (h0 : x0 < 256) (h1 : x1 < 256) (h2 : x2 < 256) (h3 : x3 < 256) : u32 great x0 x1 x2 x3 < 4294967296 := by unfold u32; split <;> omega

theorem unit16_any (great : Bool) (b off n cap x0 x1 : Nat) (w : World) (hn : 2 ≤ n)
    (h0 : w.cell? ⟨b, off, none⟩ = some (.int .u8 x0)) (h1 : w.cell? ⟨b, off + 1, none⟩ = some (.int .u8 x1)) (l0 : x0 < 256) (l1 : x1 < 256) :
    Calls Tryd.prog 37 #[.slice (some ⟨b, off, none⟩) n cap, .bool great] w fun e w' => e = .returned (.int .i64 (u16 great x0 x1 : Nat)) ∧ ∃ k, w' = w.drewN k := by
  cases great
  · refine (unit16_small b off n cap x0 x1 w hn h0 h1 l0 l1).mono ?_
    rintro e w' ⟨rfl, hk⟩
    exact ⟨ret_int (by simp [u16]), hk⟩
  · refine (unit16_great b off n cap x0 x1 w hn h0 h1 l0 l1).mono ?_
    rintro e w' ⟨rfl, hk⟩
    exact ⟨ret_int (by simp [u16]), hk⟩

theorem unit32_any (great : Bool) (b off n cap x0 x1 x2 x3 : Nat) (w : World) (hn : 4 ≤ n)
    (h0 : w.cell? ⟨b, off, none⟩ = some (.int .u8 x0)) (h1 : w.cell? ⟨b, off + 1, none⟩ = some (.int .u8 x1)) (h2 : w.cell? ⟨b, off + 2, none⟩ = some (.int .u8 x2)) (h3 : w.cell? ⟨b, off + 3, none⟩ = some (.int .u8 x3)) (l0 : x0 < 256) (l1 : x1 < 256) (l2 : x2 < 256) (l3 : x3 < 256) :
    Calls Tryd.prog 38 #[.slice (some ⟨b, off, none⟩) n cap, .bool great] w fun e w' => e = .returned (.int .u32 (u32 great x0 x1 x2 x3 : Nat)) ∧ ∃ k, w' = w.drewN k := by
  cases great
  · refine (unit32_small b off n cap x0 x1 x2 x3 w hn h0 h1 h2 h3 l0 l1 l2 l3).mono ?_
    rintro e w' ⟨rfl, hk⟩
    exact ⟨ret_int (by simp [u32]), hk⟩
  · refine (unit32_great b off n cap x0 x1 x2 x3 w hn h0 h1 h2 h3 l0 l1 l2 l3).mono ?_
    rintro e w' ⟨rfl, hk⟩
    exact ⟨ret_int (by simp [u32]), hk⟩

/-- The code point that bytes begin with, by twos: of the two units. -/
def g16 (n : Nat) (u v : Int) : Int × Int :=
  if half u = false then (u, 2)
  else if 56320 ≤ u ∨ n < 4 then (0, 0)
  else if v < 56320 ∨ 57343 < v then (0, 0)
  else (65536 + (u - 55296) * 1024 + (v - 56320), 4)
def f16 (great : Bool) (l : List UInt8) : Int × Int :=
  if l.length < 2 then (0, 0) else g16 l.length (u16 great (bt l 0) (bt l 1)) (u16 great (bt l 2) (bt l 3))

/-- .. by fours. -/
def g32 (u : Int) : Int × Int := if 1114111 < u ∨ half u = true then (0, 0) else (u, 4)
def f32 (great : Bool) (l : List UInt8) : Int × Int :=
  if l.length < 4 then (0, 0) else g32 (u32 great (bt l 0) (bt l 1) (bt l 2) (bt l 3))

set_option maxRecDepth 100000 in
set_option maxHeartbeats 400000 in
theorem first16_on (great : Bool) (b o n cap : Nat) (u v : Int) (w : World) (hn : 2 ≤ n) (hl : n ≤ cap) (hc : cap ≤ maxLen) (u0 : 0 ≤ u) (u1 : u < 65536) (v0 : 0 ≤ v) (v1 : v < 65536)
    (U : Calls Tryd.prog 37 #[.slice (some ⟨b, o, none⟩) n cap, .bool great] w fun e w' => e = .returned (.int .i64 u) ∧ ∃ k, w' = w.drewN k)
    (V : 4 ≤ n → ∀ k, Calls Tryd.prog 37 #[.slice (some ⟨b, o + 2, none⟩) (n - 2) (cap - 2), .bool great] (w.drewN k) fun e w' => e = .returned (.int .i64 v) ∧ ∃ k, w' = w.drewN k) :
    Calls Tryd.prog 34 #[.slice (some ⟨b, o, none⟩) n cap, .bool great] w fun e w' => e = .returned (.tuple #[.int .i64 (g16 n u v).1, .int .i64 (g16 n u v).2]) ∧ ∃ k, w' = w.drewN k := by
  unfold maxLen at hc
  by_cases hh : half u = false
  · have hf : g16 n u v = (u, 2) := by unfold g16; rw [if_pos hh]
    rw [hf]
    clear hf V
    go_enter Tryd.func34, Tryd.ntmps34
    go_wp2_with (first | (go_at_call 37; refine U.mono ?_; rintro e w' ⟨rfl, kk, rfl⟩) | (go_at_call 32; refine (isHalf_any _ _).mono ?_; rintro e w' ⟨rfl, rfl⟩))
    go_ret2
    exact ⟨rfl, _, rfl⟩
  · have hh1 : half u = true := by simpa using hh
    have hr : 55296 ≤ u ∧ u ≤ 57343 := by unfold half at hh1; simp at hh1; omega
    obtain ⟨r0, r1⟩ := hr
    by_cases h5 : 56320 ≤ u
    · have hf : g16 n u v = (0, 0) := by unfold g16; rw [if_neg hh, if_pos (.inl h5)]
      rw [hf]
      clear hf V hh
      go_enter Tryd.func34, Tryd.ntmps34
      go_wp2_with (first | (go_at_call 37; refine U.mono ?_; rintro e w' ⟨rfl, kk, rfl⟩) | (go_at_call 32; refine (isHalf_any _ _).mono ?_; rintro e w' ⟨rfl, rfl⟩))
      go_ret2
      exact ⟨rfl, _, rfl⟩
    · have h5' : u < 56320 := by omega
      by_cases h4 : n < 4
      · have hf : g16 n u v = (0, 0) := by unfold g16; rw [if_neg hh, if_pos (.inr h4)]
        rw [hf]
        clear hf V hh h5 r0 r1
        go_enter Tryd.func34, Tryd.ntmps34
        go_wp2_with (first | (go_at_call 37; refine U.mono ?_; rintro e w' ⟨rfl, kk, rfl⟩) | (go_at_call 32; refine (isHalf_any _ _).mono ?_; rintro e w' ⟨rfl, rfl⟩))
        go_ret2
        exact ⟨rfl, _, rfl⟩
      · have V' := V (by omega)
        obtain ⟨f, hf⟩ : ∃ f, g16 n u v = f := ⟨_, rfl⟩
        have hf' := hf
        unfold g16 at hf'
        rw [if_neg hh, if_neg (by omega)] at hf'
        rw [hf]
        have HF : Hid (_ = f) := hf'
        clear hf hf' V hh h5 
        go_enter Tryd.func34, Tryd.ntmps34
        go_wp2_with fail
        refine U.mono ?_
        rintro e w' ⟨rfl, kk, rfl⟩
        go_wp2_with (go_at_call 32; refine (isHalf_any _ _).mono ?_; rintro e w' ⟨rfl, rfl⟩)
        refine (V' kk).mono ?_
        rintro e w' ⟨rfl, k2, rfl⟩
        clear V' U
        go_wp2
        all_goals
          have hf := HF.out
          first | rw [if_pos (by omega)] at hf | rw [if_neg (by omega)] at hf
          subst hf
          go_ret2
          exact ⟨rfl, _, rfl⟩

set_option maxHeartbeats 400000 in
theorem first16_short (great : Bool) (p : Option Addr) (n cap : Nat) (w : World) (hn : n < 2) :
    Calls Tryd.prog 34 #[.slice p n cap, .bool great] w fun e w' => e = .returned (.tuple #[.int .i64 0, .int .i64 0]) ∧ ∃ k, w' = w.drewN k := by
  go_enter Tryd.func34, Tryd.ntmps34
  go_wp2
  go_ret2
  exact ⟨rfl, 0, rfl⟩

theorem first16_any (great : Bool) (p : Option Addr) (l : List UInt8) (cap : Nat) (w : World) (hl : l.length ≤ cap) (hc : cap ≤ maxLen) (h : Bs w p l) :
    Calls Tryd.prog 34 #[.slice p l.length cap, .bool great] w fun e w' => e = .returned (.tuple #[.int .i64 (f16 great l).1, .int .i64 (f16 great l).2]) ∧ ∃ k, w' = w.drewN k := by
  by_cases h2 : l.length < 2
  · have hf : f16 great l = (0, 0) := by unfold f16; rw [if_pos h2]
    rw [hf]
    exact first16_short great p l.length cap w h2
  · obtain ⟨b, o, rfl, hcl⟩ := h.at (by omega)
    have hf : f16 great l = g16 l.length (u16 great (bt l 0) (bt l 1)) (u16 great (bt l 2) (bt l 3)) := by unfold f16; rw [if_neg h2]
    rw [hf]
    have a0 := u16_lt great _ _ (bt_lt l 0) (bt_lt l 1)
    have a1 := u16_lt great _ _ (bt_lt l 2) (bt_lt l 3)
    refine first16_on great b o l.length cap _ _ w (by omega) hl hc (by omega) (by omega) (by omega) (by omega)
      (unit16_any great b o l.length cap _ _ w (by omega) (hcl 0 (by omega)) (hcl 1 (by omega)) (bt_lt l 0) (bt_lt l 1)) (fun h4 k => ?_)
    have c2 : w.cell? ⟨b, o + 2, none⟩ = some (.int .u8 (bt l 2)) := hcl 2 (by omega)
    have c3 : w.cell? ⟨b, o + 2 + 1, none⟩ = some (.int .u8 (bt l 3)) := hcl 3 (by omega)
    refine (unit16_any great b (o + 2) (l.length - 2) (cap - 2) _ _ (w.drewN k) (by omega) (by simpa using c2) (by simpa using c3) (bt_lt l 2) (bt_lt l 3)).mono ?_
    rintro e w' ⟨he, kk, rfl⟩
    exact ⟨he, k + kk, by rw [World.drewN_drewN]⟩

set_option maxRecDepth 100000 in
set_option maxHeartbeats 400000 in
theorem first32_on (great : Bool) (b o n cap : Nat) (u : Int) (w : World) (hn : 4 ≤ n) (u0 : 0 ≤ u) (u1 : u < 4294967296)
    (U : Calls Tryd.prog 38 #[.slice (some ⟨b, o, none⟩) n cap, .bool great] w fun e w' => e = .returned (.int .u32 u) ∧ ∃ k, w' = w.drewN k) :
    Calls Tryd.prog 35 #[.slice (some ⟨b, o, none⟩) n cap, .bool great] w fun e w' => e = .returned (.tuple #[.int .i64 (g32 u).1, .int .i64 (g32 u).2]) ∧ ∃ k, w' = w.drewN k := by
  by_cases h1 : 1114111 < u
  · have hf : g32 u = (0, 0) := by unfold g32; rw [if_pos (.inl h1)]
    rw [hf]
    clear hf
    go_enter Tryd.func35, Tryd.ntmps35
    go_wp2_with (first | (go_at_call 38; refine U.mono ?_; rintro e w' ⟨rfl, kk, rfl⟩) | (go_at_call 32; refine (isHalf_any _ _).mono ?_; rintro e w' ⟨rfl, rfl⟩))
    go_ret2
    exact ⟨rfl, _, rfl⟩
  · by_cases hh : half u = true
    · have hf : g32 u = (0, 0) := by unfold g32; rw [if_pos (.inr hh)]
      rw [hf]
      clear hf
      go_enter Tryd.func35, Tryd.ntmps35
      go_wp2_with (first | (go_at_call 38; refine U.mono ?_; rintro e w' ⟨rfl, kk, rfl⟩) | (go_at_call 32; refine (isHalf_any _ _).mono ?_; rintro e w' ⟨rfl, rfl⟩))
      go_ret2
      exact ⟨rfl, _, rfl⟩
    · have hf : g32 u = (u, 4) := by unfold g32; rw [if_neg (by rintro (h | h); exact h1 h; exact hh h)]
      have hh' : half u = false := by simpa using hh
      rw [hf]
      clear hf hh
      go_enter Tryd.func35, Tryd.ntmps35
      go_wp2_with (first | (go_at_call 38; refine U.mono ?_; rintro e w' ⟨rfl, kk, rfl⟩) | (go_at_call 32; refine (isHalf_any _ _).mono ?_; rintro e w' ⟨rfl, rfl⟩))
      go_ret2
      exact ⟨rfl, _, rfl⟩

set_option maxHeartbeats 400000 in
theorem first32_short (great : Bool) (p : Option Addr) (n cap : Nat) (w : World) (hn : n < 4) :
    Calls Tryd.prog 35 #[.slice p n cap, .bool great] w fun e w' => e = .returned (.tuple #[.int .i64 0, .int .i64 0]) ∧ ∃ k, w' = w.drewN k := by
  go_enter Tryd.func35, Tryd.ntmps35
  go_wp2
  go_ret2
  exact ⟨rfl, 0, rfl⟩

theorem first32_any (great : Bool) (p : Option Addr) (l : List UInt8) (cap : Nat) (w : World) (h : Bs w p l) :
    Calls Tryd.prog 35 #[.slice p l.length cap, .bool great] w fun e w' => e = .returned (.tuple #[.int .i64 (f32 great l).1, .int .i64 (f32 great l).2]) ∧ ∃ k, w' = w.drewN k := by
  by_cases h2 : l.length < 4
  · have hf : f32 great l = (0, 0) := by unfold f32; rw [if_pos h2]
    rw [hf]
    exact first32_short great p l.length cap w h2
  · obtain ⟨b, o, rfl, hcl⟩ := h.at (by omega)
    have hf : f32 great l = g32 (u32 great (bt l 0) (bt l 1) (bt l 2) (bt l 3)) := by unfold f32; rw [if_neg h2]
    rw [hf]
    have a0 := u32_lt great _ _ _ _ (bt_lt l 0) (bt_lt l 1) (bt_lt l 2) (bt_lt l 3)
    exact first32_on great b o l.length cap _ w (by omega) (by omega) (by omega)
      (unit32_any great b o l.length cap _ _ _ _ w (by omega) (hcl 0 (by omega)) (hcl 1 (by omega)) (hcl 2 (by omega)) (hcl 3 (by omega)) (bt_lt l 0) (bt_lt l 1) (bt_lt l 2) (bt_lt l 3))

/-- .. in UTF-8. -/
def g8 (r k : Int) : Int × Int := if r = 65533 ∧ k ≤ 1 then (0, 0) else (r, k)
def f8 (l : List UInt8) : Int × Int := g8 (Lib.decodeN l.length (bt l 0) (bt l 1) (bt l 2) (bt l 3)).1 (Lib.decodeN l.length (bt l 0) (bt l 1) (bt l 2) (bt l 3)).2

set_option maxRecDepth 100000 in
set_option maxHeartbeats 400000 in
theorem first8_on (p : Option Addr) (n cap : Nat) (r k : Int) (w : World) (r0 : 0 ≤ r) (r1 : r ≤ 1114111)
    (D : Calls Tryd.prog 39 #[.slice p n cap] w fun e w' => e = .returned (.tuple #[.int .i32 r, .int .i64 k]) ∧ Below w.heap.size w w') :
    Calls Tryd.prog 36 #[.slice p n cap] w fun e w' => e = .returned (.tuple #[.int .i64 (g8 r k).1, .int .i64 (g8 r k).2]) ∧ Below w.heap.size w w' := by
  by_cases h1 : r = 65533
  · by_cases h2 : k ≤ 1
    · have hf : g8 r k = (0, 0) := by unfold g8; rw [if_pos ⟨h1, h2⟩]
      rw [hf]
      have t1 : (r == 65533) = true := by simpa using h1
      clear hf h1
      go_enter Tryd.func36, Tryd.ntmps36
      go_wp2_with (go_at_call 39; refine D.mono ?_; rintro e w' ⟨rfl, hb⟩)
      go_ret2
      exact ⟨rfl, hb⟩
    · have hf : g8 r k = (r, k) := by unfold g8; rw [if_neg (fun h => h2 h.2)]
      rw [hf]
      have t1 : (r == 65533) = true := by simpa using h1
      clear hf h1
      go_enter Tryd.func36, Tryd.ntmps36
      go_wp2_with (go_at_call 39; refine D.mono ?_; rintro e w' ⟨rfl, hb⟩)
      go_ret2
      exact ⟨rfl, hb⟩
  · have hf : g8 r k = (r, k) := by unfold g8; rw [if_neg (fun h => h1 h.1)]
    rw [hf]
    have t1 : (r == 65533) = false := by simpa using h1
    clear hf h1
    go_enter Tryd.func36, Tryd.ntmps36
    go_wp2_with (go_at_call 39; refine D.mono ?_; rintro e w' ⟨rfl, hb⟩)
    go_ret2
    exact ⟨rfl, hb⟩

theorem decodeN_le (n x0 x1 x2 x3 : Nat) (h0 : x0 < 256) (h1 : x1 < 256) (h2 : x2 < 256) (h3 : x3 < 256) : (Lib.decodeN n x0 x1 x2 x3).1 ≤ 1114111 := by
  unfold Lib.decodeN
  repeat' split
  all_goals (simp only; omega)

theorem first8_any (p : Option Addr) (l : List UInt8) (cap : Nat) (w : World) (hn : 0 < l.length) (h : Bs w p l) (hT : Lib.Utf8Tabs 0 1 w) :
    Calls Tryd.prog 36 #[.slice p l.length cap] w fun e w' => e = .returned (.tuple #[.int .i64 (f8 l).1, .int .i64 (f8 l).2]) ∧ Below w.heap.size w w' := by
  obtain ⟨b, o, rfl, hcl⟩ := h.at hn
  have hs : (⟨l.toArray⟩ : ByteArray).size = l.length := by simp [ByteArray.size]
  have hg : ∀ j, ((⟨l.toArray⟩ : ByteArray).get! j).toNat = bt l j := by
    intro j
    unfold bt
    simp [ByteArray.get!, getElem!_def]
    cases l[j]? <;> rfl
  have D := Any7.utf8_DecodeRune decLays ⟨l.toArray⟩ b o cap w hT (fun j hj => by rw [hs] at hj; rw [hcl j hj, hg]; rfl)
  have hd : Lib.decodeGo ⟨l.toArray⟩ = Lib.decodeN l.length (bt l 0) (bt l 1) (bt l 2) (bt l 3) := by
    unfold Lib.decodeGo
    rw [if_neg (by rw [hs]; omega), Lib.decode_at, hg, hg, hg, hg, hs]
    rfl
  rw [hs, hd] at D
  have hle := decodeN_le l.length _ _ _ _ (bt_lt l 0) (bt_lt l 1) (bt_lt l 2) (bt_lt l 3)
  exact first8_on _ l.length cap _ _ w (by omega) (by omega) D

/-- The code point that bytes of this form begin with, and how many bytes it has: none if they don't begin with one. -/
def firstP (form : Int) (l : List UInt8) : Int × Int :=
  if form = 2 then f16 true l else if form = 3 then f16 false l else if form = 4 then f32 true l else if form = 5 then f32 false l else f8 l

set_option maxRecDepth 100000 in
set_option maxHeartbeats 400000 in
theorem first_any (form : Int) (p : Option Addr) (l : List UInt8) (cap : Nat) (w : World) (hn : 0 < l.length) (hl : l.length ≤ cap) (hc : cap ≤ maxLen) (h : Bs w p l) (hT : Lib.Utf8Tabs 0 1 w) :
    Calls Tryd.prog 29 #[.slice p l.length cap, .int .i64 form] w fun e w' => e = .returned (.tuple #[.int .i64 (firstP form l).1, .int .i64 (firstP form l).2]) ∧ Below w.heap.size w w' := by
  have A := fun g => first16_any g p l cap w hl hc h
  have B := fun g => first32_any g p l cap w h
  have C := first8_any p l cap w hn h hT
  unfold firstP
  by_cases h2 : form = 2
  · subst h2
    have A' := A true
    simp only [if_true]
    clear A B C h hT
    go_enter Tryd.func29, Tryd.ntmps29
    go_wp2_with (go_at_call 34; refine A'.mono ?_; rintro e w' ⟨rfl, kk, rfl⟩)
    go_ret2
    exact ⟨rfl, below_drewN (Below.refl _ _) _⟩
  · rw [if_neg h2]
    by_cases h3 : form = 3
    · subst h3
      have A' := A false
      simp only [if_true]
      clear A B C h hT h2
      go_enter Tryd.func29, Tryd.ntmps29
      go_wp2_with (go_at_call 34; refine A'.mono ?_; rintro e w' ⟨rfl, kk, rfl⟩)
      go_ret2
      exact ⟨rfl, below_drewN (Below.refl _ _) _⟩
    · rw [if_neg h3]
      by_cases h4 : form = 4
      · subst h4
        have B' := B true
        simp only [if_true]
        clear A B C h hT h2 h3
        go_enter Tryd.func29, Tryd.ntmps29
        go_wp2_with (go_at_call 35; refine B'.mono ?_; rintro e w' ⟨rfl, kk, rfl⟩)
        go_ret2
        exact ⟨rfl, below_drewN (Below.refl _ _) _⟩
      · rw [if_neg h4]
        by_cases h5 : form = 5
        · subst h5
          have B' := B false
          simp only [if_true]
          clear A B C h hT h2 h3 h4
          go_enter Tryd.func29, Tryd.ntmps29
          go_wp2_with (go_at_call 35; refine B'.mono ?_; rintro e w' ⟨rfl, kk, rfl⟩)
          go_ret2
          exact ⟨rfl, below_drewN (Below.refl _ _) _⟩
        · rw [if_neg h5]
          have t2 : (form == 2) = false := by simpa using h2
          have t3 : (form == 3) = false := by simpa using h3
          have t4 : (form == 4) = false := by simpa using h4
          have t5 : (form == 5) = false := by simpa using h5
          clear A B h hT h2 h3 h4 h5
          go_enter Tryd.func29, Tryd.ntmps29
          go_wp2_with (go_at_call 36; refine C.mono ?_; rintro e w' ⟨rfl, hb⟩)
          go_ret2
          exact ⟨rfl, hb⟩
end Go.Proofs.YtdkodepeglpimaaDoor
