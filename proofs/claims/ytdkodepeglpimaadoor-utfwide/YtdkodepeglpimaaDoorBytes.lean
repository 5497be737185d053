/- UtfBytes answers true for any ints. -/
import Derived.Test.YtdkodepeglpimaaDoorBytesP
import Derived.Test.YtdkodepeglpimaaDoorAlive
import Derived.Deep.Cut
import Derived.Deep.CutRange
import Derived.Deep.RegionWith
set_option linter.unusedVariables false
set_option linter.unusedSimpArgs false
namespace Go.Proofs.YtdkodepeglpimaaDoor
open Go.RowKit Go.Shelf

theorem bs_of_row {W : World} {base n : Nat} {a : Option Addr} {k c : Nat} {zs : List Int} (hz : ∀ z, z ∈ zs → 0 ≤ z ∧ z < 256) (h : W.ownsRow base 5 1 (.slice a k c) n (zs.map (.int .u8))) :
    Bs W a (zs.map toB) ∧ k = zs.length ∧ n = zs.length ∧ k ≤ c ∧ c ≤ maxLen := by
  have hl : zs.length = n := by have := h.1; simpa using this
  have h' := h
  obtain ⟨-, ⟨e, e2⟩ | ⟨g, cap, cur, e, hb, hg, h1, h2, h3, h4⟩⟩ := h'
  · cases e
    have : zs = [] := List.eq_nil_of_length_eq_zero (by omega)
    subst this
    exact ⟨.inl rfl, by simp, by omega, by omega, by unfold maxLen; omega⟩
  · cases e
    refine ⟨.inr ⟨g, 0, rfl, fun j hj => ?_⟩, by omega, by omega, h1, h2⟩
    simp at hj
    rw [Nat.zero_add, h.cellAt j (by omega)]
    have hm := hz zs[j] (List.getElem_mem hj)
    simp [hj, toB_toNat _ hm.1 hm.2]

theorem is_below' {n₀ : Nat} {A B : World} {p : Option Addr} {l : List Int} (h : Is A p l) (hp : ∀ a, p = some a → 0 < l.length → a.block < n₀) (hb : Below n₀ A B) : Is B p l := by
  rcases h with rfl | ⟨b, o, rfl, hc⟩
  · exact .inl rfl
  · exact .inr ⟨b, o, rfl, fun j hj => (hb.cell (p := ⟨b, o + j, none⟩) (hp ⟨b, o, none⟩ rfl (by omega))).trans (hc j hj)⟩

theorem ownsRow_below {W W' : World} {base : Nat} {e : TypeId} {size : Nat} {v : Value} {n : Nat} {xs : List Value} (h : W.ownsRow base e size v n xs) (hB : Below W.heap.size W W') : W'.ownsRow base e size v n xs := by
  have hlt := h.lt
  obtain ⟨h0, h1 | ⟨g, cap, cur, rfl, hb, hg, rest⟩⟩ := h
  · exact ⟨h0, .inl h1⟩
  · exact ⟨h0, .inr ⟨g, cap, cur, rfl, hb, (hB.block g (hlt g rfl).2).trans hg, rest⟩⟩

theorem encZ_nil {l : List Int} (h : (encZ l).length = 0) : l = [] := by
  cases l with
  | nil => rfl
  | cons c t =>
    have e : encZ (c :: t) = Lib.encodeRuneZ (fixP c) ++ encZ t := rfl
    have := enc_pos (fixP c)
    rw [e] at h
    simp at h
    rw [h.1] at this
    simp at this

/-- What Points tells of a row that holds the mark and the bytes of l. -/
theorem points_enc (l : List Int) (hn : (l.length : Int) ≤ 1000) (v : Value) (base n : Nat) (W W0 : World) (hT : Lib.Utf8Tabs 0 1 W) (h1 : 1 < W.heap.size) (hB0 : Below W0.heap.size W0 W)
    (h : W.ownsRow base 5 1 v n ((239 :: 187 :: 191 :: encZ l).map (.int .u8))) :
    Calls Tryd.prog 9 #[v] W fun e w' => ∃ a c, e = .returned (.tuple #[.slice a l.length c, .int .i64 0]) ∧ Is w' a (l.map fixP) ∧ Below W0.heap.size W0 w' := by
  obtain ⟨a, k, c, rfl⟩ := ownsRow_form h
  have hlt := h.lt
  obtain ⟨hB, hk, -, hkc, hcm⟩ := bs_of_row (fun z hz => by
    rcases List.mem_cons.1 hz with rfl | hz
    · omega
    rcases List.mem_cons.1 hz with rfl | hz
    · omega
    rcases List.mem_cons.1 hz with rfl | hz
    · omega
    exact encZ_byte l z hz) h
  have P := Points_any a ((239 :: 187 :: 191 :: encZ l).map toB) c W (by rw [List.length_map]; omega) hcm ⟨hB, hT, h1, fun x e _ => by subst e; exact (hlt x.block rfl).2⟩
  have e1 : (239 :: 187 :: 191 :: encZ l).map toB = 239 :: 187 :: 191 :: encU l := rfl
  rw [List.length_map, ← hk, e1, pts_enc l (by omega)] at P
  refine P.mono ?_
  rintro e w' ⟨v, rfl, ho, hb⟩
  obtain ⟨a', k', c', rfl⟩ := ownsRow_form ho
  obtain ⟨hI, rfl, -, -, -⟩ := is_of_row ho
  rw [List.length_map]
  exact ⟨a', c', rfl, hI, hB0.trans (hb.mono hB0.size)⟩

set_option maxRecDepth 100000 in
set_option maxHeartbeats 1000000 in
theorem bytes_law_long (p : Option Addr) (n cap : Nat) (w : World) (hn : 1000 < (n : Int)) (hT : Lib.Utf8Tabs 0 1 w) (h1 : 1 < w.heap.size) :
    Calls Tryd.prog 4 #[.slice p n cap] w fun e w' => e = .returned (.bool true) ∧ Below w.heap.size w w' := by
  have A := alive_any w hT h1
  clear hT
  go_enter Tryd.func4, Tryd.ntmps4
  go_wp2_with (go_at_call 8; refine A.mono ?_; rintro e w1 ⟨rfl, hb⟩)
  go_ret
  exact ⟨rfl, hb⟩

set_option maxRecDepth 100000 in
set_option maxHeartbeats 1000000 in
theorem bytes_law (p : Option Addr) (l : List Int) (cap : Nat) (w : World) (hn : (l.length : Int) ≤ 1000) (h : Is w p l) (hpa : ∀ a, p = some a → 0 < l.length → a.block < w.heap.size) (hT : Lib.Utf8Tabs 0 1 w) (h1 : 1 < w.heap.size) :
    Calls Tryd.prog 4 #[.slice p l.length cap] w fun e w' => e = .returned (.bool true) ∧ Below w.heap.size w w' := by
  have A := alive_any w hT h1
  have hz := encZ_byte l
  have hlen := encZ_len l
  have up : ∀ W, Below w.heap.size w W → Is W p l ∧ ∀ a, p = some a → 0 < l.length → a.block < W.heap.size := fun W hB => ⟨is_below' h hpa hB, fun a e hh => by have := hpa a e hh; have := hB.size; omega⟩
  have C := fun W hB => bytes_any p l cap W hn (up W hB).1 (up W hB).2
  have R := fun W hB => refBytes_any p l cap W hn (up W hB).1 (up W hB).2
  obtain ⟨i0, hi, hz0, hz1, hz2⟩ := info_parts Tryd.info5b
  go_enter Tryd.func4, Tryd.ntmps4
  go_upto_region 5 with (first | (go_at_call 8; refine A.mono ?_; rintro e w1 ⟨rfl, hb⟩) | (go_at_call 15; refine (C _ hb).mono ?_; rintro e w2 ⟨v1, rfl, ho1, hb1⟩; obtain ⟨a1, k1, c1, rfl⟩ := ownsRow_form ho1; obtain ⟨hB1, hk1, -, hkc, hcm⟩ := bs_of_row hz ho1; subst hk1; have hlt1 := ho1.lt))
  have hb2 := hb.trans (hb1.mono hb.size)
  have cv1 : ∀ W, Below w2.heap.size w2 W → (convert 22 9 (.slice a1 (encZ l).length c1)).run Tryd.prog W = .ok (.string ⟨((encZ l).map toB).toArray⟩) W := fun W hB => by
    have := conv_of W a1 ((encZ l).map toB) c1 (hB1.below (fun x e _ => by subst e; exact (hlt1 x.block rfl).2) hB)
    rwa [List.length_map] at this
  have R' : ∀ W, Below w2.heap.size w2 W → Calls Tryd.prog 16 #[.slice p l.length cap] W fun e w' => ∃ a2 c2, e = .returned (.slice a2 (encZ l).length c2) ∧ (convert 22 9 (.slice a2 (encZ l).length c2)).run Tryd.prog w' = .ok (.string ⟨((encZ l).map toB).toArray⟩) w' ∧ Below w2.heap.size w2 w' := fun W hB => by
    refine (R W (hb2.trans (hB.mono hb2.size))).mono ?_
    rintro e w3 ⟨v2, rfl, ho2, hb3⟩
    obtain ⟨a2, k2, c2, rfl⟩ := ownsRow_form ho2
    obtain ⟨hB2, hk2, -, -, -⟩ := bs_of_row hz ho2
    subst hk2
    refine ⟨a2, c2, rfl, ?_, hB.trans (hb3.mono hB.size)⟩
    have := conv_of w3 a2 ((encZ l).map toB) c2 hB2
    rwa [List.length_map] at this
  go_cut [25] from 20 to 25 (fun t wx => t = .bool false ∧ Below w2.heap.size w2 wx)
  case first =>
    have hd : Below w2.heap.size w2 w2.drew := (Below.refl _ _).drew
    clear A C R up hb hb1 hb2 h hB1 hT ho1
    generalize (⟨((encZ l).map toB).toArray⟩ : ByteArray) = S at cv1 R'
    go_region_with (go_at_call 16; refine (R' _ hd).mono ?_; rintro e w3 ⟨a2, c2, rfl, cv2, hb3⟩)
    all_goals
      go_wp2
      go_meet
      case rel => exact ⟨congrArg Value.bool (by simp), hb3⟩
  case rest =>
    obtain ⟨rfl, hbc⟩ := hcut
    have hbw := hb2.trans (hbc.mono hb2.size)
    have hsz := hbw.size
    have hoc := ownsRow_below ho1 hbc
    have hTc := tabs_below hT h1 hbw
    have hIc := (up wc hbw).1
    clear A C R R' cv1 hb1 hb2 hT hB1 up h
    go_upto_region 7 with fail
    go_cut [5, 6] from 26 to 32 (fun t5 t6 wx => ∃ a5 c5, t5 = .slice a5 l.length c5 ∧ t6 = .int .i64 0 ∧ Is wx a5 (l.map fixP) ∧ Below wc.heap.size wc wx)
    case first =>
      have hs1 := hb.size
      have ht1 : 1 < wc.heap.size := by omega
      have hoc' := hoc
      obtain ⟨-, ⟨e, e2⟩ | ⟨g, cap3, cur, e, hgb, -⟩⟩ := hoc'
      · simp only [Value.slice.injEq] at e
        obtain ⟨rfl, he, rfl⟩ := e
        obtain rfl := encZ_nil he
        rw [show (encZ []).length = 0 from rfl] at *
        have hlit := World.ownsRow_lit (base := wc.heap.size) (e := 5) (size := 1) wc #[.int .u8 239, .int .u8 187, .int .u8 191] 3 (Nat.le_refl _) (by unfold maxLen; omega) rfl
        have hB4 : Below wc.heap.size wc (wc.alloc (.cells #[.int .u8 239, .int .u8 187, .int .u8 191] 5)) := (Below.refl _ wc).alloc (Nat.le_refl _) _
        have P0 := points_enc [] (by simp) _ _ _ (wc.alloc (.cells #[.int .u8 239, .int .u8 187, .int .u8 191] 5)) wc (tabs_below hTc ht1 hB4) (by have := hB4.size; omega) hB4 hlit
        clear hoc he e2 hlit hB4
        go_wp2_with fail
        refine P0.mono ?_
        rintro e w5 ⟨a5, c5, rfl, hI5, hb5⟩
        clear P0
        go_wp2
        go_meet
        case rel => exact ⟨a5, c5, rfl, rfl, hI5, hb5⟩
      · simp only [Value.slice.injEq] at e
        obtain ⟨rfl, -, rfl⟩ := e
        have hcells := hoc.cells (g := g) rfl
        have hgl := (hoc.lt g rfl).2
        have hnews : ∀ u, u ∈ (encZ l).map (Value.int .u8) → u.oneCell' = true := by intro u hu; obtain ⟨z, -, rfl⟩ := List.mem_map.1 hu; rfl
        have hap : ∀ (o : Obj), ∀ (j : Nat) (u : Value), ((encZ l).map (Value.int .u8))[j]? = some u → (wc.alloc o).cell? ((⟨g, 0, none⟩ : Addr).add j) = some u := fun o j u hj => (((Below.refl _ wc).alloc (Nat.le_refl _) o).cell (by rw [add_block]; exact hgl)).trans (hcells j u hj)
        have hlit := World.ownsRow_lit (base := wc.heap.size) (e := 5) (size := 1) wc #[.int .u8 239, .int .u8 187, .int .u8 191] 3 (Nat.le_refl _) (by unfold maxLen; omega) rfl
        have fin : ∀ (v3 : Value) (w4 : World), w4.ownsRow wc.heap.size 5 1 v3 (3 + (encZ l).length) ([.int .u8 239, .int .u8 187, .int .u8 191] ++ (encZ l).map (.int .u8)) → (wc.alloc (.cells #[.int .u8 239, .int .u8 187, .int .u8 191] 5)).grownBy w4 (some wc.heap.size) →
            Calls Tryd.prog 9 #[v3] w4 fun e w' => ∃ a c, e = .returned (.tuple #[.slice a l.length c, .int .i64 0]) ∧ Is w' a (l.map fixP) ∧ Below wc.heap.size wc w' := fun v3 w4 h3 hg3 => by
          have hB4 : Below wc.heap.size wc w4 := ((Below.refl _ wc).alloc (Nat.le_refl _) _).grown hg3 (by simp) (fun k e => by cases e; exact Nat.le_refl _)
          exact points_enc l hn v3 _ _ w4 wc (tabs_below hTc ht1 hB4) (by have := hB4.size; omega) hB4 h3
        have HF := fin
        clear hoc hcells fin hTc hIc
        go_wp2_with (first | (at_builtin; refine wpList_append_own _ rfl _ _ 22 rfl wc.heap.size 5 i0 (.int .u8 0) 1 1 Tryd.underlying22 hi hz0 hz1 hz2 rfl (by decide) _ 3 [.int .u8 239, .int .u8 187, .int .u8 191] rfl hlit ⟨g, 0, none⟩ (encZ l).length c1 ((encZ l).map (.int .u8)) rfl (by simp) (hap _) hnews (by unfold maxLen; omega) (by omega) (by simp) ?_; intro v3 w4 ho3 hg3 _) | (go_at_call 9; refine (HF _ _ ho3 hg3).mono ?_; rintro e w5 ⟨a5, c5, rfl, hI5, hb5⟩))
        go_meet
        case rel => exact ⟨a5, c5, rfl, rfl, hI5, hb5⟩
    case rest =>
      obtain ⟨a5, c5, rfl, rfl, hI5, hb5⟩ := hcut
      have hb6 := hbw.trans (hb5.mono hsz)
      have hI := is_below' hIc (fun a e hh => by have := hpa a e hh; omega) hb5
      have hn0 : ¬ (1000 : Int) < l.length := by omega
      clear hTc hIc hoc hbc hb5 hcm hkc hlt1
      go_wp2_with (go_at_call 13; refine (num_any _ _).mono ?_; rintro e w' ⟨rfl, rfl⟩)
      go_loop [7, 8] (fun i c => ∃ k : Nat, k ≤ l.length ∧ i = .int .i64 k) (fun i _ => l.length - (intOf i).toNat)
      case atStart => exact ⟨0, Nat.zero_le _, rfl⟩
      case round =>
        obtain ⟨k, hk, rfl⟩ := hrel
        by_cases hlt : k < l.length
        · obtain ⟨b, o, rfl, hcl⟩ := hI.at (by omega)
          obtain ⟨b5, o5, rfl, hcl5⟩ := hI5.at (by rw [List.length_map]; omega)
          have q0 := hcl k hlt
          have q5 := hcl5 k (by rw [List.length_map]; exact hlt)
          have e5 : (l.map fixP)[k]?.getD 0 = fixP (l[k]?.getD 0) := by simp [hlt]
          rw [e5] at q5
          clear hcl hcl5 hI hI5 e5
          generalize l[k]?.getD 0 = c at q0 q5
          by_cases c0 : c < 0
          · have hf : fixP c = 65533 := by unfold fixP; rw [if_neg (by intro h; have := okP_range h; omega)]
            rw [hf] at q5
            clear hf
            go_wp2
            go_round
            case rel => exact ⟨k + 1, by omega, by go_num⟩
            case measure => simp [intOf]; omega
          by_cases c1 : 1114111 < c
          · have hf : fixP c = 65533 := by unfold fixP; rw [if_neg (by intro h; have := okP_range h; omega)]
            rw [hf] at q5
            clear hf
            go_wp2
            go_round
            case rel => exact ⟨k + 1, by omega, by go_num⟩
            case measure => simp [intOf]; omega
          by_cases c2 : c < 55296
          · have hf : fixP c = c := by unfold fixP; rw [if_pos (okP_lo c (by omega) c2)]
            rw [hf] at q5
            clear hf
            go_wp2
            go_round
            case rel => exact ⟨k + 1, by omega, by go_num⟩
            case measure => simp [intOf]; omega
          by_cases c3 : 57343 < c
          · have hf : fixP c = c := by unfold fixP; rw [if_pos (okP_hi c c3 (by omega))]
            rw [hf] at q5
            clear hf
            go_wp2
            go_round
            case rel => exact ⟨k + 1, by omega, by go_num⟩
            case measure => simp [intOf]; omega
          · have hf : fixP c = 65533 := by unfold fixP; rw [if_neg (by intro h; have := okP_range h; omega)]
            rw [hf] at q5
            clear hf
            go_wp2
            go_round
            case rel => exact ⟨k + 1, by omega, by go_num⟩
            case measure => simp [intOf]; omega
        · obtain rfl : k = l.length := by omega
          go_wp2
          go_ret
          exact ⟨rfl, hb6⟩
end Go.Proofs.YtdkodepeglpimaaDoor
