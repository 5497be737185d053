/- What Node answers for the lines of a given text. -/
import Derived.Test.YtipbhdhiklmieaaGreatDoorZAS
import Derived.Test.YtipbhdhiklmieaaGreatDoorZBB
import Derived.Test.YtipbhdhiklmieaaGreatDoorCards
import Derived.Test.YtipbhdhiklmieaaGreatDoorTie
import Derived.WalkKit
import Derived.ChangeOld
import Derived.Below
import Derived.ProofKit
import Derived.OpenShut
import Derived.Deep.DeepHandedRow
import Derived.Lib.LaidU8
import Derived.Lib.LaidIn
import Derived.LaidSub
set_option linter.all false
set_option maxRecDepth 100000
set_option maxHeartbeats 2000000
namespace Go.Proofs.YtipbhdhiklmieaaGreatDoor
open Go.RowKit Go.Shelf
open P3 (linesP pieceOf lineP cutsAt cuts_count inP badP)
theorem runW_det {O : Orc} {L : List Lp} {n deep : Int} {blk : Bool} : ∀ (f g : Nat) (s : St) (r r' : Except Int St), runW O L n deep blk f s = some r -> runW O L n deep blk g s = some r' -> r = r' := by
 intro f
 induction f with
 | zero =>
  intro g s r r' h h'
  cases hop : s.op with
  | nil =>
   have e1 : runW O L n deep blk 0 s = some (.ok s) := by simp [runW, hop]
   have e2 : runW O L n deep blk g s = some (.ok s) := by cases g <;> simp [runW, hop]
   rw [e1] at h
   rw [e2] at h'
   rw [<- Option.some.inj h, <- Option.some.inj h']
  | cons l t =>
   have e1 : runW O L n deep blk 0 s = none := by simp [runW, hop]
   rw [e1] at h
   cases h
 | succ f ih =>
  intro g s r r' h h'
  cases hop : s.op with
  | nil =>
   have e1 : runW O L n deep blk (f + 1) s = some (.ok s) := by simp [runW, hop]
   have e2 : runW O L n deep blk g s = some (.ok s) := by cases g <;> simp [runW, hop]
   rw [e1] at h
   rw [e2] at h'
   rw [<- Option.some.inj h, <- Option.some.inj h']
  | cons l t =>
   cases g with
   | zero =>
    have e1 : runW O L n deep blk 0 s = none := by simp [runW, hop]
    rw [e1] at h'
    cases h'
   | succ g =>
    cases hs : stpW O L n deep blk s with
    | error c =>
     have e1 : ∀ m, runW O L n deep blk (m + 1) s = some (.error c) := fun m => by simp [runW, hop, hs]
     rw [e1] at h h'
     rw [<- Option.some.inj h, <- Option.some.inj h']
    | ok s2 =>
     have e1 : ∀ m, runW O L n deep blk (m + 1) s = runW O L n deep blk m s2 := fun m => by simp [runW, hop, hs]
     rw [e1] at h h'
     exact ih g s2 r r' h h'
theorem nodW_det {O : Orc} {L : List Lp} {n deep : Int} {blk : Bool} {f g : Nat} {p : Pl} {r r' : Except Int St} (h : nodW O L n deep blk f p = some r) (h' : nodW O L n deep blk g p = some r') : r = r' := by
 unfold nodW at h h'
 split at h
 ·rename_i c hc; rw [hc] at h'; rw [<- Option.some.inj h, <- Option.some.inj h']
 ·rename_i s hs; rw [hs] at h'; exact runW_det _ _ _ _ _ h h'
def ansW (t : List Int) (d : Int) (f : Nat) : Option (Int × Int × Int × List Ev) := match plcP (lpsO t) 0 0 with
 | none => some (2, 0, 0, [])
 | some p => match nodW orc (lpsO t) (-1) d false f p with
  | none => none
  | some (.error c) => some (c, 0, 0, [])
  | some (.ok s) => some (0, (s.p.i : Nat), colW (lpsO t) s.p, s.to.filter nz)
theorem ans_nod {t : List Int} {d : Int} {f : Nat} {e i k : Int} {ev : List Ev} (h : ansW t d f = some (e, i, k, ev)) {base : Nat} {en : Ending} {w' : World} (hn : NodP orc (lpsO t) (-1) d base (plcP (lpsO t) 0 0) en w') :
  ∃ v, en = .returned (.tuple #[v, .int .i64 i, .int .i64 k, .int .i64 e]) /\ w'.ownsRow base 50 6 v ev.length (flE ev) := by
 unfold ansW at h
 cases hp : plcP (lpsO t) 0 0 with
 | none =>
  rw [hp] at h hn
  cases h
  exact ⟨_, hn, World.ownsRow_nil _ _ _ _⟩
 | some p =>
  rw [hp] at h hn
  obtain ⟨r, ⟨g, hg⟩, hr⟩ := hn
  simp only at h
  split at h
  ·cases h
  ·rename_i c hc
   cases h
   have := nodW_det hc hg
   subst this
   exact ⟨_, hr.2, World.ownsRow_nil _ _ _ _⟩
  ·rename_i s hs
   cases h
   have := nodW_det hs hg
   subst this
   exact hr
theorem lps_len (t : List Int) : (lpsO t).length <= t.length := by
 have := cuts_count t t.length 0 (by omega)
 unfold lpsO linesP
 simpa using this
theorem lps_small (t : List Int) (j : Nat) (x : Lp) (h : (lpsO t)[j]? = some x) : x.t.length <= t.length /\ x.n <= t.length := by
 unfold lpsO linesP at h
 rw [List.map_map, List.getElem?_map] at h
 cases hc : (cutsAt t 0)[j]? with
 | none => rw [hc] at h; cases h
 | some y =>
  rw [hc] at h
  cases h
  have h1 : (pieceOf t y).length <= t.length := by unfold pieceOf; rw [List.length_take, List.length_drop]; omega
  have h2 : inP (pieceOf t y) <= (pieceOf t y).length := P10.run_le _ _
  constructor
  ·show ((pieceOf t y).drop (inP (pieceOf t y))).length <= _
   rw [List.length_drop]
   omega
  ·show ((inP (pieceOf t y) : Nat) : Int) <= _
   omega
theorem lp_at {M : List Ln} {L : List Lp} (h : M.map Ln.lp = L) {j : Nat} {x : Ln} (hx : M[j]? = some x) : L[j]? = some x.lp := by
 rw [<- h, List.getElem?_map, hx]
 rfl
theorem Node_txt {w : World} {rb g : Nat} {M : List Ln} {t : List Int} (hrb : w.cell? ⟨rb, 0, none⟩ = some (.slice (some ⟨g, 0, none⟩) M.length M.length)) (hls : Ls w (some ⟨g, 0, none⟩) M) (hmp : M.map Ln.lp = lpsO t) (hl : M.length <= 600) (ht : t.length <= 1300) (hT : P7.Tab w)
  {d : Int} (hd0 : 0 <= d) (hd1 : d <= 1048576) {f : Nat} {e i k : Int} {ev : List Ev} (ha : ansW t d f = some (e, i, k, ev)) :
  Calls Tryz.prog 12 #[.pointer (some ⟨rb, 0, none⟩), .int .i64 0, .int .i64 0, .int .i64 (-1), .int .i64 d] w fun en w' => ∃ v, en = .returned (.tuple #[v, .int .i64 i, .int .i64 k, .int .i64 e]) /\ w'.ownsRow w.heap.size 50 6 v ev.length (flE ev) /\ Below w.heap.size w w' := by
 refine (Node_any low hrb hls (Nat.le_refl _) (by unfold maxLen; omega) hl (fun j x hx => ?_) (fun j x hx => ?_) hT hT.lt 0 0 (-1) d hd0 hd1 (by decide)).mono ?_
 ·have := (lps_small t j _ (lp_at hmp hx)).1
  have e : x.lp.t = x.t := rfl
  rw [e] at this
  omega
 ·have := (lps_small t j _ (lp_at hmp hx)).2
  have e : x.lp.n = x.n := rfl
  rw [e] at this
  omega
 ·rintro en w' ⟨hn, hb⟩
  rw [hmp] at hn
  obtain ⟨v, h1, h2⟩ := ans_nod ha hn
  exact ⟨v, h1, h2, hb⟩
def EvL (w : World) (p : Option Addr) (ev : List Ev) : Prop := ∀ j x, ev[j]? = some x -> ∃ g, p = some ⟨g, 0, none⟩ /\ w.cell? ⟨g, j * 6, none⟩ = some (.int .i64 x.k) /\ w.cell? ⟨g, j * 6 + 1, none⟩ = some (.string x.tx) /\ w.cell? ⟨g, j * 6 + 2, none⟩ = some (.string x.tg) /\ w.cell? ⟨g, j * 6 + 3, none⟩ = some (.string x.an) /\ w.cell? ⟨g, j * 6 + 4, none⟩ = some (.int .i64 x.st) /\ w.cell? ⟨g, j * 6 + 5, none⟩ = some (.bool x.fl)
theorem flE_all : ∀ (ev : List Ev) (j : Nat) (x : Ev), ev[j]? = some x -> ∀ o v, x.c[o]? = some v -> (flE ev)[j * 6 + o]? = some v
 | [], j, x, h => by simp at h
 | y :: ev, 0, x, h => by
  cases h
  intro o v hv
  have hl : y.c.length = 6 := rfl
  have ho : o < 6 := by have := (List.getElem?_eq_some_iff.1 hv).1; omega
  rw [flE, Nat.zero_mul, Nat.zero_add, List.getElem?_append_left (by omega)]
  exact hv
 | y :: ev, j + 1, x, h => by
  intro o v hv
  have := flE_all ev j x (by simpa using h) o v hv
  have hl : y.c.length = 6 := rfl
  rw [flE, List.getElem?_append_right (by omega), hl, show (j + 1) * 6 + o - 6 = j * 6 + o by omega]
  exact this
theorem row_evl {w : World} {base : Nat} {v : Value} {ev : List Ev} (h : w.ownsRow base 50 6 v ev.length (flE ev)) : ∃ p c, v = .slice p ev.length c /\ EvL w p ev := by
 have hh := h
 obtain ⟨hlen, ⟨e1, e2⟩ | ⟨g, cap, cur, e1, hb, hg, hn, hc, -⟩⟩ := h
 ·refine ⟨none, 0, by rw [e1, e2], fun j x hx => ?_⟩
  have := (List.getElem?_eq_some_iff.1 hx).1
  omega
 ·refine ⟨some ⟨g, 0, none⟩, cap, e1, fun j x hx => ⟨g, rfl, ?_⟩⟩
  have H := flE_all ev j x hx
  have C : ∀ o v, x.c[o]? = some v -> w.cell? ⟨g, j * 6 + o, none⟩ = some v := fun o v hv => by
   have := World.ownsRow.cells hh (g := g) (by rw [e1]; rfl) _ _ (H o v hv)
   rw [add_plain, Nat.zero_add] at this
   exact this
  exact ⟨C 0 _ rfl, C 1 _ rfl, C 2 _ rfl, C 3 _ rfl, C 4 _ rfl, C 5 _ rfl⟩
end Go.Proofs.YtipbhdhiklmieaaGreatDoor
namespace Go.Proofs.YtipbhdhiklmieaaGreatDoor
open Go.RowKit Go.Shelf
open P3 (badP)
theorem num_any (e : Int) (w : World) : Calls Tryz.prog 14 #[.int .i64 e] w fun r w' => r = .returned (.int .i64 e) /\ w' = w := by
 go_enter Tryz.func14, Tryz.ntmps14
 go_wp2
 go_ret
 exact ⟨rfl, rfl⟩
def fitB (t : List Int) : Bool := decide (t.length <= 600) && t.all (fun x => decide (0 < x) && decide (x < 128)) && !(t.any badP)
theorem fit_asc {t : List Int} (h : fitB t = true) : t.length <= 600 /\ Asc t /\ t.any badP = false := by
 unfold fitB at h
 rw [Bool.and_eq_true, Bool.and_eq_true, decide_eq_true_eq, List.all_eq_true, Bool.not_eq_true'] at h
 refine ⟨h.1.1, fun x hx => ?_, h.2⟩
 have := h.1.2 x hx
 simpa using this
def Got (w : World) (p : Option Addr) (n : Nat) (t : List Int) : Prop := ∃ M : List Ln, M.length = n /\ Ls w p M /\ M.map Ln.lp = lpsO t
def Rdy (w : World) (rb : Nat) (t : List Int) : Prop := ∃ (g : Nat) (M : List Ln), w.cell? ⟨rb, 0, none⟩ = some (.slice (some ⟨g, 0, none⟩) M.length M.length) /\ Ls w (some ⟨g, 0, none⟩) M /\ M.map Ln.lp = lpsO t
theorem got_len {M : List Ln} {t : List Int} (h : M.map Ln.lp = lpsO t) : M.length = (lpsO t).length := by rw [<- h, List.length_map]
theorem Lines_txt (s : ByteArray) (h : fitB (bI s) = true) (w : World) : Calls Tryz.prog 16 #[.string s] w fun e w' => ∃ p n c, e = .returned (.slice p n c) /\ Got w' p n (bI s) /\ Below w.heap.size w w' := by
 obtain ⟨h1, h2, h3⟩ := fit_asc h
 refine (Lines_any s (by rw [bI_len] at h1; omega) h2 h3 w).mono ?_
 rintro e w' ⟨p, M, c, rfl, hls, hmp, -, -, hb⟩
 exact ⟨p, M.length, c, rfl, ⟨M, rfl, hls, hmp⟩, hb⟩
theorem New_txt {w : World} {p : Option Addr} {n : Nat} {t : List Int} (c : Nat) (h : Got w p n t) (hl : (lpsO t).length <= 600) (ht : t.length <= 1300) : Calls Tryz.prog 11 #[.slice p n c] w fun e w' => ∃ rb, e = .returned (.pointer (some ⟨rb, 0, none⟩)) /\ Rdy w' rb t /\ Below w.heap.size w w' := by
 obtain ⟨M, rfl, hls, hmp⟩ := h
 refine (New_any (c := c) hls (by rw [got_len hmp]; exact hl) (fun j x hx => ?_)).mono ?_
 ·have := (lps_small t j _ (lp_at hmp hx)).1
  have e : x.lp.t = x.t := rfl
  rw [e] at this
  omega
 ·rintro e w' ⟨rb, M2, rfl, h1, h2, h3, h4⟩
  exact ⟨rb, rfl, ⟨w.heap.size, M2, h1, h2, h3.trans hmp⟩, h4⟩
theorem Node_row {w : World} {rb : Nat} {t : List Int} (h : Rdy w rb t) (hl : (lpsO t).length <= 600) (ht : t.length <= 1300) (hT : P7.Tab w) {d : Int} (hd0 : 0 <= d) (hd1 : d <= 1048576) {f : Nat} {e i k : Int} {ev : List Ev} (ha : ansW t d f = some (e, i, k, ev)) :
  Calls Tryz.prog 12 #[.pointer (some ⟨rb, 0, none⟩), .int .i64 0, .int .i64 0, .int .i64 (-1), .int .i64 d] w fun en w' => ∃ p c, en = .returned (.tuple #[.slice p ev.length c, .int .i64 i, .int .i64 k, .int .i64 e]) /\ EvL w' p ev /\ Below w.heap.size w w' := by
 obtain ⟨g, M, h1, h2, h3⟩ := h
 refine (Node_txt h1 h2 h3 (by rw [got_len h3]; exact hl) ht hT hd0 hd1 ha).mono ?_
 rintro en w' ⟨v, rfl, ho, hb⟩
 obtain ⟨p, c, rfl, hc⟩ := row_evl ho
 exact ⟨p, c, rfl, hc, hb⟩
def alvS : ByteArray := ⟨#[91, 97, 44, 32, 98, 58, 32, 99, 93]⟩
theorem alv_fit : fitB (bI alvS) = true := by kernel_rfl
theorem alv_ans : ∃ ev, ansW (bI alvS) 0 40 = some (0, 0, 9, ev) /\ ev.length = 7 /\ ∃ x, ev[2]? = some x /\ x.k = 5 := by
 have h : (ansW (bI alvS) 0 40).map (fun r => (r.1, r.2.1, r.2.2.1, r.2.2.2.length, (r.2.2.2[2]?).map (·.k))) = some (0, 0, 9, 7, some 5) := by kernel_rfl
 cases h2 : ansW (bI alvS) 0 40 with
 | none => rw [h2] at h; cases h
 | some r =>
  obtain ⟨a, b, c, ev⟩ := r
  rw [h2] at h
  simp only [Option.map_some, Option.some.injEq, Prod.mk.injEq] at h
  obtain ⟨rfl, rfl, rfl, h4, h5⟩ := h
  refine ⟨ev, rfl, h4, ?_⟩
  cases h6 : ev[2]? with
  | none => rw [h6] at h5; cases h5
  | some x => rw [h6] at h5; exact ⟨x, rfl, Option.some.inj h5⟩
theorem alive_any (w : World) (hT : P7.Tab w) : Calls Tryz.prog 9 #[] w fun e w' => e = .returned (.bool true) /\ Below w.heap.size w w' := by
 obtain ⟨ev, ha, hl, x, hx, hk⟩ := alv_ans
 have LN := Lines_txt alvS alv_fit w
 have HT : Hid (P7.Tab w) := hT
 have HA : Hid (ansW (bI alvS) 0 40 = some (0, 0, 9, ev)) := ha
 have HX : Hid (ev[2]? = some x) := hx
 have HL : Hid ((lpsO (bI alvS)).length <= 600 /\ (bI alvS).length <= 1300) := ⟨by have := lps_len (bI alvS); have h9 : (bI alvS).length = 9 := rfl; omega, by have h9 : (bI alvS).length = 9 := rfl; omega⟩
 have hlen : (ev.length : Int) = 7 := by omega
 clear hT ha hx
 go_enter Tryz.func9, Tryz.ntmps9
 go_wp2_with (first | (go_at_call 16; refine LN.mono ?_; clear LN; rintro e W1 ⟨p1, n1, c1, rfl, hg1, hb1⟩; have NW := New_txt c1 hg1 HL.out.1 HL.out.2; clear hg1) | (go_at_call 11; refine NW.mono ?_; clear NW; rintro e W2 ⟨rb, rfl, hr2, hb2⟩; have hb12 := hb1.trans (hb2.mono hb1.size); have NO := Node_row hr2 HL.out.1 HL.out.2 (HT.out.on hb12) (by decide) (by decide) HA.out; clear hr2) | (go_at_call 12; refine NO.mono ?_; clear NO; rintro e W3 ⟨p3, c3, rfl, he3, hb3⟩; have hb13 := hb12.trans (hb3.mono hb12.size); obtain ⟨g3, rfl, k3, -⟩ := he3 2 x HX.out; rw [hk] at k3; clear he3) | (go_at_call 14; refine (num_any _ _).mono ?_; rintro e W4 ⟨rfl, rfl⟩))
 go_ret
 exact ⟨rfl, hb13⟩
end Go.Proofs.YtipbhdhiklmieaaGreatDoor
namespace Go.Proofs.YtipbhdhiklmieaaGreatDoor
open Go.RowKit Go.Shelf
end Go.Proofs.YtipbhdhiklmieaaGreatDoor
namespace Go.Proofs.YtipbhdhiklmieaaGreatDoor
open P7 (sgn pnt shortsL Tab)
open Go.ChangeShapes Go.WideShapes Go.ChangeAt Go.RowKit Go.Shelf
theorem own : ownKnob Tryz.prog.godebug = none := by kernel_rfl
def lst : List (String × DataW Unit) := [("marginalia/double.shorts", Rows.laid_marginalia_double_shorts)]
theorem shorts_is : (Rows.laid_marginalia_double_shorts : DataW Unit) = .agg ((List.range 18).map fun i => .agg ([sgn i, pnt i].map fun z => .lit (.int .i64 z))) := by kernel_rfl
theorem cells242 : Tryz.prog.cellsOf 242 = 2 := by kernel_rfl
theorem cells3 : Tryz.prog.cellsOf 3 = 1 := by kernel_rfl
theorem tab_laid {W : World} (h : laidMet Tryz.prog lst W) : Tab W := by
 have h4 := Lib.laidMet.reads h (n := "marginalia/double.shorts") (.head _)
 rw [shorts_is] at h4
 intro i hi
 obtain ⟨g, t, cs, fuel, p, hg, hty, hvar, hd⟩ := h4
 obtain rfl := Option.some.inj ((show Tryz.prog.globalNamed "marginalia/double.shorts" = some 0 by kernel_rfl).symm.trans hg)
 obtain rfl := Option.some.inj ((show (Tryz.prog.globals[0]?).map (·.type) = some 243 by kernel_rfl).symm.trans hty)
 obtain ⟨fuel', d, q, hdi, he⟩ := Lib.array_elem Tryz.underlying243 hd i hi
 simp only [List.getElem?_map, List.getElem?_range hi, Option.map_some, Option.some.injEq] at hdi
 subst hdi
 rw [cells242] at he
 have hcs := Lib.ints_of_struct Tryz.underlying242 (fun j f hj => by
  match j, hj with
  | 0, hj => simp at hj; subst hj; exact ⟨Tryz.underlying3, rfl, cells3⟩
  | 1, hj => simp at hj; subst hj; exact ⟨Tryz.underlying3, rfl, cells3⟩
  | j + 2, hj => simp at hj) (by rw [cells242]; rfl) he
 have e0 := congrArg (·[0]?) hcs
 have e1 := congrArg (·[1]?) hcs
 simp only [List.getElem?_take, List.getElem?_drop] at e0 e1
 constructor
 ·rw [World.var?_cell hg hvar (2 * i), <- Array.getElem?_toList]
  simpa [Nat.mul_comm] using e0
 ·rw [World.var?_cell hg hvar (2 * i + 1), <- Array.getElem?_toList]
  simpa [Nat.mul_comm] using e1
def laidWorldOf (P : Program) (os : Os) : World :=
 let w0 := World.holding P os ⟨#[], #[], []⟩
 { w0 with heap := w0.heap.modify 0 fun
  | .cells _ t frozen => .cells (shortsL.flatMap fun x => [Value.int .i64 x.1, Value.int .i64 x.2]).toArray t frozen
  | o => o }
theorem laid_met (os : Os) (args : Array Value) : laidMet Tryz.prog lst ((laidWorldOf Tryz.prog os).forCall (fun _ _ => 0) ⟨#[], args, []⟩).memory :=
 (LaidIn.of_run [0] 8 (by kernel_rfl) (by kernel_rfl) (by kernel_rfl) (by kernel_rfl)).met
end Go.Proofs.YtipbhdhiklmieaaGreatDoor
