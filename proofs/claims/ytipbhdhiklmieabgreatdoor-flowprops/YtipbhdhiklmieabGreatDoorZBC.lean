/- What Node answers for the lines of a given text. -/
import Derived.Test.YtipbhdhiklmieabGreatDoorZAS
import Derived.Test.YtipbhdhiklmieabGreatDoorZBA
import Derived.Test.YtipbhdhiklmieabGreatDoorZBB
import Derived.Laws.StructEq
import Derived.Laws.Concat
set_option linter.unusedVariables false
set_option linter.unusedSimpArgs false
namespace Go.Proofs.YtipbhdhiklmieabGreatDoor
open Go.RowKit Go.Shelf
open Go.Proofs.YtipbhdhiklmieabGreatDoor.P3 (linesP pieceOf lineP cutsAt cuts_count inP badP)
theorem runW_det {O : Orc} {L : List Lp} {n deep : Int} {blk : Bool} : ∀ (f g : Nat) (s : St) (r r' : Except Int St), runW O L n deep blk f s = some r → runW O L n deep blk g s = some r' → r = r' := by
 intro f
 induction f with
 | zero =>
  intro g s r r' h h'
  cases hop : s.op with
  | nil =>
   have e1 : runW O L n deep blk 0 s = some (.ok s) := by simp [runW, hop]
   have e2 : runW O L n deep blk g s = some (.ok s) := by cases g <;> simp [runW, hop]
   rw [e1] at h
   rw [e2] at h'
   rw [← Option.some.inj h, ← Option.some.inj h']
  | cons l t =>
   have e1 : runW O L n deep blk 0 s = none := by simp [runW, hop]
   rw [e1] at h
   cases h
 | succ f ih =>
  intro g s r r' h h'
  cases hop : s.op with
  | nil =>
   have e1 : runW O L n deep blk (f + 1) s = some (.ok s) := by simp [runW, hop]
   have e2 : runW O L n deep blk g s = some (.ok s) := by cases g <;> simp [runW, hop]
   rw [e1] at h
   rw [e2] at h'
   rw [← Option.some.inj h, ← Option.some.inj h']
  | cons l t =>
   cases g with
   | zero =>
    have e1 : runW O L n deep blk 0 s = none := by simp [runW, hop]
    rw [e1] at h'
    cases h'
   | succ g =>
    cases hs : stpW O L n deep blk s with
    | error c =>
     have e1 : ∀ m, runW O L n deep blk (m + 1) s = some (.error c) := fun m => by simp [runW, hop, hs]
     rw [e1] at h h'
     rw [← Option.some.inj h, ← Option.some.inj h']
    | ok s2 =>
     have e1 : ∀ m, runW O L n deep blk (m + 1) s = runW O L n deep blk m s2 := fun m => by simp [runW, hop, hs]
     rw [e1] at h h'
     exact ih g s2 r r' h h'
theorem nodW_det {O : Orc} {L : List Lp} {n deep : Int} {blk : Bool} {f g : Nat} {p : Pl} {r r' : Except Int St} (h : nodW O L n deep blk f p = some r) (h' : nodW O L n deep blk g p = some r') : r = r' := by
 unfold nodW at h h'
 split at h
 ·rename_i c hc; rw [hc] at h'; rw [← Option.some.inj h, ← Option.some.inj h']
 ·rename_i s hs; rw [hs] at h'; exact runW_det _ _ _ _ _ h h'
def ansW (t : List Int) (d : Int) (f : Nat) : Option (Int × Int × Int × List Ev) := match plcP (lpsO t) 0 0 with
 | none => some (2, 0, 0, [])
 | some p => match nodW orc (lpsO t) (-1) d false f p with
  | none => none
  | some (.error c) => some (c, 0, 0, [])
  | some (.ok s) => some (0, (s.p.i : Nat), colW (lpsO t) s.p, s.to.filter nz)
theorem ans_nod {t : List Int} {d : Int} {f : Nat} {e i k : Int} {ev : List Ev} (h : ansW t d f = some (e, i, k, ev)) {base : Nat} {en : Ending} {w' : World} (hn : NodP orc (lpsO t) (-1) d base (plcP (lpsO t) 0 0) en w') :
  ∃ v, en = .returned (.tuple #[v, .int .i64 i, .int .i64 k, .int .i64 e]) ∧ w'.ownsRow base 35 6 v ev.length (flE ev) := by
 unfold ansW at h
 cases hp : plcP (lpsO t) 0 0 with
 | none =>
  rw [hp] at h hn
  cases h
  exact ⟨_, hn, World.ownsRow_nil _ _ _ _⟩
 | some p =>
  rw [hp] at h hn
  obtain ⟨r, ⟨g, hg⟩, hr⟩ := hn
  simp only at h
  split at h
  ·cases h
  ·rename_i c hc
   cases h
   have := nodW_det hc hg
   subst this
   exact ⟨_, hr.2, World.ownsRow_nil _ _ _ _⟩
  ·rename_i s hs
   cases h
   have := nodW_det hs hg
   subst this
   exact hr
theorem lps_len (t : List Int) : (lpsO t).length ≤ t.length := by
 have := cuts_count t t.length 0 (by omega)
 unfold lpsO linesP
 simpa using this
theorem lps_small (t : List Int) (j : Nat) (x : Lp) (h : (lpsO t)[j]? = some x) : x.t.length ≤ t.length ∧ x.n ≤ t.length := by
 unfold lpsO linesP at h
 rw [List.map_map, List.getElem?_map] at h
 cases hc : (cutsAt t 0)[j]? with
 | none => rw [hc] at h; cases h
 | some y =>
  rw [hc] at h
  cases h
  have h1 : (pieceOf t y).length ≤ t.length := by unfold pieceOf; rw [List.length_take, List.length_drop]; omega
  have h2 : inP (pieceOf t y) ≤ (pieceOf t y).length := P10.run_le _ _
  constructor
  ·show ((pieceOf t y).drop (inP (pieceOf t y))).length ≤ _
   rw [List.length_drop]
   omega
  ·show ((inP (pieceOf t y) : Nat) : Int) ≤ _
   omega
theorem lp_at {M : List Ln} {L : List Lp} (h : M.map Ln.lp = L) {j : Nat} {x : Ln} (hx : M[j]? = some x) : L[j]? = some x.lp := by
 rw [← h, List.getElem?_map, hx]
 rfl
theorem Node_txt {w : World} {rb g : Nat} {M : List Ln} {t : List Int} (hrb : w.cell? ⟨rb, 0, none⟩ = some (.slice (some ⟨g, 0, none⟩) M.length M.length)) (hls : Ls w (some ⟨g, 0, none⟩) M) (hmp : M.map Ln.lp = lpsO t) (hl : M.length ≤ 600) (ht : t.length ≤ 1300) (hT : P7.Tab w)
  {d : Int} (hd0 : 0 ≤ d) (hd1 : d ≤ 1048576) {f : Nat} {e i k : Int} {ev : List Ev} (ha : ansW t d f = some (e, i, k, ev)) :
  Calls Tryz.prog 9 #[.pointer (some ⟨rb, 0, none⟩), .int .i64 0, .int .i64 0, .int .i64 (-1), .int .i64 d] w fun en w' => ∃ v, en = .returned (.tuple #[v, .int .i64 i, .int .i64 k, .int .i64 e]) ∧ w'.ownsRow w.heap.size 35 6 v ev.length (flE ev) ∧ Below w.heap.size w w' := by
 refine (Node_any low hrb hls (Nat.le_refl _) (by unfold maxLen; omega) hl (fun j x hx => ?_) (fun j x hx => ?_) hT hT.lt 0 0 (-1) d hd0 hd1 (by decide)).mono ?_
 ·have := (lps_small t j _ (lp_at hmp hx)).1
  have e : x.lp.t = x.t := rfl
  rw [e] at this
  omega
 ·have := (lps_small t j _ (lp_at hmp hx)).2
  have e : x.lp.n = x.n := rfl
  rw [e] at this
  omega
 ·rintro en w' ⟨hn, hb⟩
  rw [hmp] at hn
  obtain ⟨v, h1, h2⟩ := ans_nod ha hn
  exact ⟨v, h1, h2, hb⟩
def EvL (w : World) (p : Option Addr) (ev : List Ev) : Prop := ∀ j x, ev[j]? = some x → ∃ g, p = some ⟨g, 0, none⟩ ∧ w.cell? ⟨g, j * 6, none⟩ = some (.int .i64 x.k) ∧ w.cell? ⟨g, j * 6 + 1, none⟩ = some (.string x.tx) ∧ w.cell? ⟨g, j * 6 + 2, none⟩ = some (.string x.tg) ∧ w.cell? ⟨g, j * 6 + 3, none⟩ = some (.string x.an) ∧ w.cell? ⟨g, j * 6 + 4, none⟩ = some (.int .i64 x.st) ∧ w.cell? ⟨g, j * 6 + 5, none⟩ = some (.bool x.fl)
theorem flE_all : ∀ (ev : List Ev) (j : Nat) (x : Ev), ev[j]? = some x → ∀ o v, x.c[o]? = some v → (flE ev)[j * 6 + o]? = some v
 | [], j, x, h => by simp at h
 | y :: ev, 0, x, h => by
  cases h
  intro o v hv
  have hl : y.c.length = 6 := rfl
  have ho : o < 6 := by have := (List.getElem?_eq_some_iff.1 hv).1; omega
  rw [flE, Nat.zero_mul, Nat.zero_add, List.getElem?_append_left (by omega)]
  exact hv
 | y :: ev, j + 1, x, h => by
  intro o v hv
  have := flE_all ev j x (by simpa using h) o v hv
  have hl : y.c.length = 6 := rfl
  rw [flE, List.getElem?_append_right (by omega), hl, show (j + 1) * 6 + o - 6 = j * 6 + o by omega]
  exact this
theorem row_evl {w : World} {base : Nat} {v : Value} {ev : List Ev} (h : w.ownsRow base 35 6 v ev.length (flE ev)) : ∃ p c, v = .slice p ev.length c ∧ EvL w p ev ∧ ∀ a, p = some a → base ≤ a.block ∧ a.block < w.heap.size ∧ ∀ o, w.frozen? ⟨a.block, o, none⟩ = false := by
 have hh := h
 obtain ⟨hlen, ⟨e1, e2⟩ | ⟨g, cap, cur, e1, hb, hg, hn, hc, -⟩⟩ := h
 ·refine ⟨none, 0, by rw [e1, e2], fun j x hx => ?_, fun a e => by cases e⟩
  have := (List.getElem?_eq_some_iff.1 hx).1
  omega
 ·refine ⟨some ⟨g, 0, none⟩, cap, e1, fun j x hx => ⟨g, rfl, ?_⟩, fun a e => ?_⟩
  ·have H := flE_all ev j x hx
   have C : ∀ o v, x.c[o]? = some v → w.cell? ⟨g, j * 6 + o, none⟩ = some v := fun o v hv => by
    have := World.ownsRow.cells hh (g := g) (by rw [e1]; rfl) _ _ (H o v hv)
    rw [add_plain, Nat.zero_add] at this
    exact this
   exact ⟨C 0 _ rfl, C 1 _ rfl, C 2 _ rfl, C 3 _ rfl, C 4 _ rfl, C 5 _ rfl⟩
  ·cases e
   exact ⟨hb, (Array.getElem?_eq_some_iff.1 hg).1, fun o => by simp [World.frozen?, hg]⟩
end Go.Proofs.YtipbhdhiklmieabGreatDoor
namespace Go.Proofs.YtipbhdhiklmieabGreatDoor
open Go.RowKit Go.Shelf
open Go.Proofs.YtipbhdhiklmieabGreatDoor.P3 (badP)
set_option maxHeartbeats 400000 in
theorem num_any (e : Int) (w : World) : Calls Tryz.prog 10 #[.int .i64 e] w fun r w' => r = .returned (.int .i64 e) ∧ w' = w := by
 go_enter Tryz.func10, Tryz.ntmps10
 go_wp2
 go_ret
 exact ⟨rfl, rfl⟩
def fitB (t : List Int) : Bool := decide (t.length ≤ 600) && t.all (fun x => decide (0 < x) && decide (x < 128) && decide (x ≠ 13)) && !(t.any badP)
theorem fit_asc {t : List Int} (h : fitB t = true) : t.length ≤ 600 ∧ Asc t ∧ t.any badP = false ∧ ∀ j, j < t.length → iAt t j ≠ 13 := by
 unfold fitB at h
 rw [Bool.and_eq_true, Bool.and_eq_true, decide_eq_true_eq, List.all_eq_true, Bool.not_eq_true'] at h
 have H : ∀ x, x ∈ t → (0 < x ∧ x < 128) ∧ x ≠ 13 := fun x hx => by simpa using h.1.2 x hx
 exact ⟨h.1.1, fun x hx => (H x hx).1, h.2, fun j hj => by rw [show iAt t j = t[j] by simp [iAt, hj]]; exact (H _ (List.getElem_mem hj)).2⟩
def Got (w : World) (p : Option Addr) (n : Nat) (t : List Int) : Prop := ∃ M : List Ln, M.length = n ∧ Ls w p M ∧ M.map Ln.lp = lpsO t
def Rdy (w : World) (rb : Nat) (t : List Int) : Prop := ∃ (g : Nat) (M : List Ln), w.cell? ⟨rb, 0, none⟩ = some (.slice (some ⟨g, 0, none⟩) M.length M.length) ∧ Ls w (some ⟨g, 0, none⟩) M ∧ M.map Ln.lp = lpsO t
theorem got_len {M : List Ln} {t : List Int} (h : M.map Ln.lp = lpsO t) : M.length = (lpsO t).length := by rw [← h, List.length_map]
theorem Lines_txt (s : ByteArray) (h : fitB (bI s) = true) (w : World) : Calls Tryz.prog 8 #[.string s] w fun e w' => ∃ p n c, e = .returned (.slice p n c) ∧ Got w' p n (bI s) ∧ Below w.heap.size w w' := by
 obtain ⟨h1, h2, h3, h4⟩ := fit_asc h
 refine (Lines_any s (by rw [bI_len] at h1; omega) h2 h3 h4 w).mono ?_
 rintro e w' ⟨p, M, c, rfl, hls, hmp, -, -, hb⟩
 exact ⟨p, M.length, c, rfl, ⟨M, rfl, hls, hmp⟩, hb⟩
theorem New_txt {w : World} {p : Option Addr} {n : Nat} {t : List Int} (c : Nat) (h : Got w p n t) (hl : (lpsO t).length ≤ 600) (ht : t.length ≤ 1300) : Calls Tryz.prog 7 #[.slice p n c] w fun e w' => ∃ rb, e = .returned (.pointer (some ⟨rb, 0, none⟩)) ∧ Rdy w' rb t ∧ Below w.heap.size w w' := by
 obtain ⟨M, rfl, hls, hmp⟩ := h
 refine (New_any (c := c) hls (by rw [got_len hmp]; exact hl) (fun j x hx => ?_)).mono ?_
 ·have := (lps_small t j _ (lp_at hmp hx)).1
  have e : x.lp.t = x.t := rfl
  rw [e] at this
  omega
 ·rintro e w' ⟨rb, M2, rfl, h1, h2, h3, h4⟩
  exact ⟨rb, rfl, ⟨w.heap.size, M2, h1, h2, h3.trans hmp⟩, h4⟩
theorem Node_row {w : World} {rb : Nat} {t : List Int} (h : Rdy w rb t) (hl : (lpsO t).length ≤ 600) (ht : t.length ≤ 1300) (hT : P7.Tab w) {d : Int} (hd0 : 0 ≤ d) (hd1 : d ≤ 1048576) {f : Nat} {e i k : Int} {ev : List Ev} (ha : ansW t d f = some (e, i, k, ev)) :
  Calls Tryz.prog 9 #[.pointer (some ⟨rb, 0, none⟩), .int .i64 0, .int .i64 0, .int .i64 (-1), .int .i64 d] w fun en w' => ∃ p c, en = .returned (.tuple #[.slice p ev.length c, .int .i64 i, .int .i64 k, .int .i64 e]) ∧ EvL w' p ev ∧ (∀ a, p = some a → w.heap.size ≤ a.block ∧ a.block < w'.heap.size ∧ ∀ o, w'.frozen? ⟨a.block, o, none⟩ = false) ∧ Below w.heap.size w w' := by
 obtain ⟨g, M, h1, h2, h3⟩ := h
 refine (Node_txt h1 h2 h3 (by rw [got_len h3]; exact hl) ht hT hd0 hd1 ha).mono ?_
 rintro en w' ⟨v, rfl, ho, hb⟩
 obtain ⟨p, c, rfl, hc, ha⟩ := row_evl ho
 exact ⟨p, c, rfl, hc, ha, hb⟩
def alvS : ByteArray := ⟨#[91, 97, 44, 32, 98, 58, 32, 99, 93]⟩
theorem alv_fit : fitB (bI alvS) = true := by kernel_rfl
theorem alv_ans : ∃ ev, ansW (bI alvS) 0 40 = some (0, 0, 9, ev) ∧ ev.length = 7 ∧ ∃ x, ev[2]? = some x ∧ x.k = 5 := by
 have h : (ansW (bI alvS) 0 40).map (fun r => (r.1, r.2.1, r.2.2.1, r.2.2.2.length, (r.2.2.2[2]?).map (·.k))) = some (0, 0, 9, 7, some 5) := by kernel_rfl
 cases h2 : ansW (bI alvS) 0 40 with
 | none => rw [h2] at h; cases h
 | some r =>
  obtain ⟨a, b, c, ev⟩ := r
  rw [h2] at h
  simp only [Option.map_some, Option.some.injEq, Prod.mk.injEq] at h
  obtain ⟨rfl, rfl, rfl, h4, h5⟩ := h
  refine ⟨ev, rfl, h4, ?_⟩
  cases h6 : ev[2]? with
  | none => rw [h6] at h5; cases h5
  | some x => rw [h6] at h5; exact ⟨x, rfl, Option.some.inj h5⟩
set_option maxRecDepth 100000 in
set_option maxHeartbeats 2000000 in
theorem alive_any (w : World) (hT : P7.Tab w) : Calls Tryz.prog 6 #[] w fun e w' => e = .returned (.bool true) ∧ Below w.heap.size w w' := by
 obtain ⟨ev, ha, hl, x, hx, hk⟩ := alv_ans
 have LN := Lines_txt alvS alv_fit w
 have HT : Hid (P7.Tab w) := hT
 have HA : Hid (ansW (bI alvS) 0 40 = some (0, 0, 9, ev)) := ha
 have HX : Hid (ev[2]? = some x) := hx
 have HL : Hid ((lpsO (bI alvS)).length ≤ 600 ∧ (bI alvS).length ≤ 1300) := ⟨by have := lps_len (bI alvS); have h9 : (bI alvS).length = 9 := rfl; omega, by have h9 : (bI alvS).length = 9 := rfl; omega⟩
 have hlen : (ev.length : Int) = 7 := by omega
 clear hT ha hx
 go_enter Tryz.func6, Tryz.ntmps6
 go_wp2_with (first | (go_at_call 8; refine LN.mono ?_; clear LN; rintro e W1 ⟨p1, n1, c1, rfl, hg1, hb1⟩; have NW := New_txt c1 hg1 HL.out.1 HL.out.2; clear hg1) | (go_at_call 7; refine NW.mono ?_; clear NW; rintro e W2 ⟨rb, rfl, hr2, hb2⟩; have hb12 := hb1.trans (hb2.mono hb1.size); have NO := Node_row hr2 HL.out.1 HL.out.2 (HT.out.on hb12) (by decide) (by decide) HA.out; clear hr2) | (go_at_call 9; refine NO.mono ?_; clear NO; rintro e W3 ⟨p3, c3, rfl, he3, -, hb3⟩; have hb13 := hb12.trans (hb3.mono hb12.size); obtain ⟨g3, rfl, k3, -⟩ := he3 2 x HX.out; rw [hk] at k3; clear he3) | (go_at_call 10; refine (num_any _ _).mono ?_; rintro e W4 ⟨rfl, rfl⟩))
 go_ret
 exact ⟨rfl, hb13⟩
end Go.Proofs.YtipbhdhiklmieabGreatDoor
namespace Go.Proofs.YtipbhdhiklmieabGreatDoor
open Go.RowKit Go.Shelf
set_option maxRecDepth 100000 in
set_option maxHeartbeats 2000000 in
theorem same_events {w : World} {p q : Option Addr} {ev : List Ev} (c d : Nat) (hn : ev.length ≤ 1048576) (h1 : EvL w p ev) (h2 : EvL w q ev) :
  Calls Tryz.prog 11 #[.slice p ev.length c, .slice q ev.length d] w fun e w' => e = .returned (.bool true) ∧ ∃ k, w' = w.drewN k := by
 have H1 : Hid (EvL w p ev) := h1
 have H2 : Hid (EvL w q ev) := h2
 clear h1 h2
 go_enter Tryz.func11, Tryz.ntmps11
 go_wp2
 go_loopw [5] (fun i wr => ∃ (k m : Nat), k ≤ ev.length ∧ i = .int .i64 (k : Nat) ∧ wr = w.drewN m) (fun i _ => ev.length - (intOf i).toNat)
 case atStart => exact ⟨0, 0, Nat.zero_le _, rfl, rfl⟩
 case round =>
  obtain ⟨k, m, hk, rfl, rfl⟩ := hrel
  by_cases hlt : k < ev.length
  ·obtain ⟨x, hx⟩ : ∃ x, ev[k]? = some x := ⟨_, List.getElem?_eq_getElem hlt⟩
   obtain ⟨g, rfl, a0, a1, a2, a3, a4, a5⟩ := H1.out k x hx
   obtain ⟨g', rfl, b0, b1, b2, b3, b4, b5⟩ := H2.out k x hx
   clear hx H1 H2
   go_wp2
   go_quiet (fail)
   go_wp2
   go_roundw
   case rel => exact ⟨k + 1, _, by omega, by go_num, rfl⟩
   case measure => simp [intOf]; omega
  ·obtain rfl : k = ev.length := by omega
   clear H1 H2
   go_wp2
   go_ret
   exact ⟨rfl, _, rfl⟩
def nodS : List ByteArray := [⟨#[97]⟩, ⟨#[34, 97, 34]⟩, ⟨#[39, 97, 39]⟩, ⟨#[91, 93]⟩, ⟨#[123, 125]⟩, ⟨#[91, 97, 93]⟩, ⟨#[123, 97, 58, 32, 98, 125]⟩]
def gapS : List ByteArray := [⟨#[32]⟩, ⟨#[9]⟩, ⟨#[10, 32]⟩, ⟨#[32, 35, 32, 99, 10, 32, 32]⟩]
def prpT (g n : ByteArray) (first both : Bool) : ByteArray :=
 if both then (if first then ((⟨#[33, 116]⟩ ++ g) ++ ⟨#[38, 120]⟩) ++ g ++ n else ((⟨#[38, 120]⟩ ++ g) ++ ⟨#[33, 116]⟩) ++ g ++ n) else (⟨#[38, 120]⟩ ++ g) ++ n
def evEq (a b : Ev) : Bool := decide (a.k = b.k) && decide (a.tx.data.toList = b.tx.data.toList) && decide (a.tg.data.toList = b.tg.data.toList) && decide (a.an.data.toList = b.an.data.toList) && decide (a.st = b.st) && (a.fl == b.fl)
theorem ba_ext {a b : ByteArray} (h : a.data.toList = b.data.toList) : a = b := ByteArray.ext (Array.toList_inj.1 h)
theorem evEq_eq {a b : Ev} (h : evEq a b = true) : a = b := by
 unfold evEq at h
 simp only [Bool.and_eq_true, decide_eq_true_eq, beq_iff_eq] at h
 obtain ⟨⟨⟨⟨⟨h1, h2⟩, h3⟩, h4⟩, h5⟩, h6⟩ := h
 cases a; cases b
 simp only at h1 h2 h3 h4 h5 h6
 rw [h1, ba_ext h2, ba_ext h3, ba_ext h4, h5, h6]
def evsEq : List Ev → List Ev → Bool
 | [], [] => true
 | a :: l, b :: m => evEq a b && evsEq l m
 | _, _ => false
theorem evsEq_eq : ∀ {l m : List Ev}, evsEq l m = true → l = m
 | [], [], _ => rfl
 | a :: l, b :: m, h => by
  rw [evsEq, Bool.and_eq_true] at h
  rw [evEq_eq h.1, evsEq_eq h.2]
 | [], b :: m, h => by cases h
 | a :: l, [], h => by cases h
def named (both : Bool) (x : Ev) : Ev := { x with an := ⟨#[120]⟩, tg := if both then ⟨#[33, 116]⟩ else x.tg }
def prpB (g n : ByteArray) (first both : Bool) : Bool := (decide (g.size ≤ 100) && decide (n.size ≤ 100)) && fitB (bI n) && fitB (bI (prpT g n first both)) && match ansW (bI n) 0 40, ansW (bI (prpT g n first both)) 0 40 with
 | some (f, _, _, x :: l), some (e, _, _, ev) => decide (f = 0) && decide (e = 0) && decide (l.length ≤ 100) && evsEq ev (named both x :: l)
 | _, _ => false
theorem prp_all : nodS.all (fun n => gapS.all fun g => prpB g n false false && prpB g n false true && prpB g n true false && prpB g n true true) = true := by kernel_rfl
theorem prp_at {i j : Nat} (hi : i < 7) (hj : j < 4) (first both : Bool) : prpB (gapS.getD j ⟨#[]⟩) (nodS.getD i ⟨#[]⟩) first both = true := by
 have h1 : i < nodS.length := hi
 have h2 : j < gapS.length := hj
 have := List.all_eq_true.1 (List.all_eq_true.1 prp_all _ (List.getElem_mem h1)) _ (List.getElem_mem h2)
 rw [Bool.and_eq_true, Bool.and_eq_true, Bool.and_eq_true] at this
 rw [List.getD_eq_getElem?_getD, List.getD_eq_getElem?_getD, List.getElem?_eq_getElem h1, List.getElem?_eq_getElem h2]
 cases first <;> cases both
 ·exact this.1.1.1
 ·exact this.1.1.2
 ·exact this.1.2
 ·exact this.2
theorem prp_is {g n : ByteArray} {first both : Bool} (h : prpB g n first both = true) : (g.size ≤ 100 ∧ n.size ≤ 100) ∧ fitB (bI n) = true ∧ fitB (bI (prpT g n first both)) = true ∧ ∃ i k x l i' k', l.length ≤ 100 ∧ ansW (bI n) 0 40 = some (0, i, k, x :: l) ∧ ansW (bI (prpT g n first both)) 0 40 = some (0, i', k', named both x :: l) := by
 unfold prpB at h
 rw [Bool.and_eq_true, Bool.and_eq_true, Bool.and_eq_true, Bool.and_eq_true, decide_eq_true_eq, decide_eq_true_eq] at h
 refine ⟨h.1.1.1, h.1.1.2, h.1.2, ?_⟩
 have h2 := h.2
 split at h2
 ·rename_i f i k x l e i' k' ev ha hb
  simp only [Bool.and_eq_true, decide_eq_true_eq] at h2
  obtain ⟨⟨⟨rfl, rfl⟩, hl⟩, h3⟩ := h2
  exact ⟨i, k, x, l, i', k', hl, ha, by rw [hb, evsEq_eq h3]⟩
 ·cases h2
theorem nstr_at (i : Nat) (h : i < 7) (hq) : ([Value.string ⟨#[97]⟩, Value.string ⟨#[34, 97, 34]⟩, Value.string ⟨#[39, 97, 39]⟩, Value.string ⟨#[91, 93]⟩, Value.string ⟨#[123, 125]⟩, Value.string ⟨#[91, 97, 93]⟩, Value.string ⟨#[123, 97, 58, 32, 98, 125]⟩] : List Value)[i]'hq = .string (nodS.getD i ⟨#[]⟩) := by
 have hl : i < nodS.length := h
 have hq' : i < (nodS.map Value.string).length := by rw [List.length_map]; exact hl
 show (nodS.map Value.string)[i]'hq' = _
 rw [List.getElem_map, List.getD_eq_getElem?_getD, List.getElem?_eq_getElem hl]
 rfl
theorem gstr_at (i : Nat) (h : i < 4) (hq) : ([Value.string ⟨#[32]⟩, Value.string ⟨#[9]⟩, Value.string ⟨#[10, 32]⟩, Value.string ⟨#[32, 35, 32, 99, 10, 32, 32]⟩] : List Value)[i]'hq = .string (gapS.getD i ⟨#[]⟩) := by
 have hl : i < gapS.length := h
 have hq' : i < (gapS.map Value.string).length := by rw [List.length_map]; exact hl
 show (gapS.map Value.string)[i]'hq' = _
 rw [List.getElem_map, List.getD_eq_getElem?_getD, List.getElem?_eq_getElem hl]
 rfl
theorem addS (a b : ByteArray) (ha : a.size ≤ 1000) (hb : b.size ≤ 1000) (w : World) : (Op.stringOp .add a b).run Tryz.prog w = .ok (.string (a ++ b)) w := run_string_add_sum w a b (by omega)
theorem apZ (a b : ByteArray) : (a ++ b).size = a.size + b.size := ByteArray.size_append ..
theorem nod_lit : (#[Value.string ⟨#[97]⟩, Value.string ⟨#[34, 97, 34]⟩, Value.string ⟨#[39, 97, 39]⟩, Value.string ⟨#[91, 93]⟩, Value.string ⟨#[123, 125]⟩, Value.string ⟨#[91, 97, 93]⟩, Value.string ⟨#[123, 97, 58, 32, 98, 125]⟩] : Array Value) = (nodS.map Value.string).toArray := rfl
theorem gap_lit : (#[Value.string ⟨#[32]⟩, Value.string ⟨#[9]⟩, Value.string ⟨#[10, 32]⟩, Value.string ⟨#[32, 35, 32, 99, 10, 32, 32]⟩] : Array Value) = (gapS.map Value.string).toArray := rfl
theorem tabs_at (W : World) (i j : Nat) (hi : i < 7) (hj : j < 4) : ((W.alloc (.cells (nodS.map Value.string).toArray 9)).alloc (.cells (gapS.map Value.string).toArray 9)).cell? ⟨W.heap.size, i, none⟩ = some (.string (nodS.getD i ⟨#[]⟩)) ∧ ((W.alloc (.cells (nodS.map Value.string).toArray 9)).alloc (.cells (gapS.map Value.string).toArray 9)).cell? ⟨W.heap.size + 1, j, none⟩ = some (.string (gapS.getD j ⟨#[]⟩)) := by
 have h1 : ((W.alloc (.cells (nodS.map Value.string).toArray 9)).alloc (.cells (gapS.map Value.string).toArray 9)).heap[W.heap.size]? = some (.cells (nodS.map Value.string).toArray 9) := (Below.heap_alloc _ _ _ (by simp)).trans (World.alloc_heap_new W _)
 have h2 : ((W.alloc (.cells (nodS.map Value.string).toArray 9)).alloc (.cells (gapS.map Value.string).toArray 9)).heap[W.heap.size + 1]? = some (.cells (gapS.map Value.string).toArray 9) := by
  have := World.alloc_heap_new (W.alloc (.cells (nodS.map Value.string).toArray 9)) (.cells (gapS.map Value.string).toArray 9)
  rwa [World.size_alloc] at this
 have l1 : i < nodS.length := hi
 have l2 : j < gapS.length := hj
 constructor
 ·have : ∀ (A : World) (k : Nat) (cs : Array Value) (t : TypeId) (o : Nat), A.heap[k]? = some (.cells cs t) → A.cell? ⟨k, o, none⟩ = cs[o]? := fun A k cs t o h => by simp [World.cell?, h]
  rw [this _ _ _ _ _ h1]
  rw [List.getElem?_toArray, List.getElem?_map, List.getD_eq_getElem?_getD, List.getElem?_eq_getElem l1]
  rfl
 ·have : ∀ (A : World) (k : Nat) (cs : Array Value) (t : TypeId) (o : Nat), A.heap[k]? = some (.cells cs t) → A.cell? ⟨k, o, none⟩ = cs[o]? := fun A k cs t o h => by simp [World.cell?, h]
  rw [this _ _ _ _ _ h2]
  rw [List.getElem?_toArray, List.getElem?_map, List.getD_eq_getElem?_getD, List.getElem?_eq_getElem l2]
  rfl
theorem EvL.on {A B : World} {p : Option Addr} {ev : List Ev} {n : Nat} (h : EvL A p ev) (hp : ∀ a, p = some a → a.block < n) (hb : Below n A B) : EvL B p ev := by
 intro j x hx
 obtain ⟨g, rfl, h0, h1, h2, h3, h4, h5⟩ := h j x hx
 have hg : g < n := hp ⟨g, 0, none⟩ rfl
 have C : ∀ o, B.cell? ⟨g, o, none⟩ = A.cell? ⟨g, o, none⟩ := fun o => hb.cell (p := ⟨g, o, none⟩) hg
 exact ⟨g, rfl, (C _).trans h0, (C _).trans h1, (C _).trans h2, (C _).trans h3, (C _).trans h4, (C _).trans h5⟩
theorem EvL.apart {A : World} {p : Option Addr} {ev : List Ev} {g o : Nat} (h : EvL A p ev) (hp : ∀ a, p = some a → a.block ≠ g) (v : Value) : EvL (A.setCell ⟨g, o, none⟩ v) p ev := by
 intro j x hx
 obtain ⟨g', rfl, h0, h1, h2, h3, h4, h5⟩ := h j x hx
 have hg : g' ≠ g := hp ⟨g', 0, none⟩ rfl
 have C : ∀ o', (A.setCell ⟨g, o, none⟩ v).cell? ⟨g', o', none⟩ = A.cell? ⟨g', o', none⟩ := fun o' => World.cell?_setCell_other _ _ _ _ (fun e => hg (by rw [Addr.mk.injEq] at e; exact e.1.symm))
 exact ⟨g', rfl, (C _).trans h0, (C _).trans h1, (C _).trans h2, (C _).trans h3, (C _).trans h4, (C _).trans h5⟩
theorem EvL.head {A : World} {g o : Nat} {x y : Ev} {l : List Ev} {v u : Value} (h : EvL A (some ⟨g, 0, none⟩) (x :: l)) (ho : o < 6) (hu : A.cell? ⟨g, o, none⟩ = some u) (hy : y.c = x.c.set o v) : EvL (A.setCell ⟨g, o, none⟩ v) (some ⟨g, 0, none⟩) (y :: l) := by
 intro j z hz
 have ne (a : Nat) (hab : a ≠ o) : (A.setCell ⟨g, o, none⟩ v).cell? ⟨g, a, none⟩ = A.cell? ⟨g, a, none⟩ := World.cell?_setCell_other _ _ _ _ (fun e => hab (by rw [Addr.mk.injEq] at e; exact e.2.1.symm))
 have same : (A.setCell ⟨g, o, none⟩ v).cell? ⟨g, o, none⟩ = some v := World.cell?_setCell_same _ _ _ hu
 cases j with
 | zero =>
  cases hz
  obtain ⟨g', e, h0, h1, h2, h3, h4, h5⟩ := h 0 x rfl
  cases e
  rw [Nat.zero_mul] at h0 h1 h2 h3 h4 h5
  rw [Nat.zero_add] at h1 h2 h3 h4 h5
  have X : ∀ a b, x.c[a]? = some b → A.cell? ⟨g, a, none⟩ = some b := fun a b hb => by
   match a, hb with
   | 0, hb => cases hb; exact h0
   | 1, hb => cases hb; exact h1
   | 2, hb => cases hb; exact h2
   | 3, hb => cases hb; exact h3
   | 4, hb => cases hb; exact h4
   | 5, hb => cases hb; exact h5
   | a + 6, hb => simp [Ev.c] at hb
  have Y : ∀ a b, y.c[a]? = some b → (A.setCell ⟨g, o, none⟩ v).cell? ⟨g, a, none⟩ = some b := fun a b hb => by
   rw [hy] at hb
   by_cases ha : a = o
   ·subst ha
    have hl : a < x.c.length := ho
    rw [List.getElem?_set_self hl] at hb
    cases hb
    exact same
   ·rw [List.getElem?_set_ne (fun e => ha e.symm)] at hb
    rw [ne a ha]
    exact X a b hb
  refine ⟨g, rfl, ?_, ?_, ?_, ?_, ?_, ?_⟩
  ·rw [Nat.zero_mul]; exact Y 0 _ rfl
  ·rw [Nat.zero_mul, Nat.zero_add]; exact Y 1 _ rfl
  ·rw [Nat.zero_mul, Nat.zero_add]; exact Y 2 _ rfl
  ·rw [Nat.zero_mul, Nat.zero_add]; exact Y 3 _ rfl
  ·rw [Nat.zero_mul, Nat.zero_add]; exact Y 4 _ rfl
  ·rw [Nat.zero_mul, Nat.zero_add]; exact Y 5 _ rfl
 | succ j =>
  obtain ⟨g', e, h0, h1, h2, h3, h4, h5⟩ := h (j + 1) z hz
  cases e
  exact ⟨g, rfl, (ne _ (by omega)).trans h0, (ne _ (by omega)).trans h1, (ne _ (by omega)).trans h2, (ne _ (by omega)).trans h3, (ne _ (by omega)).trans h4, (ne _ (by omega)).trans h5⟩
theorem size_two (w : World) (a b : Obj) : ((w.alloc a).alloc b).heap.size = w.heap.size + 2 := by simp
end Go.Proofs.YtipbhdhiklmieabGreatDoor
