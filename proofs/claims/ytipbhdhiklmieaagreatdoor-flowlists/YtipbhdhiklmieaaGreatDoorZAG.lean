/- The walk: alias, opens, pop, close, openPair. -/
import Derived.Test.YtipbhdhiklmieaaGreatDoorZAF
set_option linter.all false
set_option maxRecDepth 100000
set_option maxHeartbeats 2000000
namespace Go.Proofs.YtipbhdhiklmieaaGreatDoor
open Go.RowKit Go.Shelf
attribute [local go_sem] Oper.semAt_some
theorem alias_any {w : World} {wb : Nat} {E : Env} {s : St} {ov tv : Value} {O : Orc} (LO : LowC O) (LN : LowN O) (h : Wk w wb E s ov tv) (hs : Sml s) (hf : Fine E) (hp : Okp E s.p) (h0 : 0 < (rst E.L s.p).length) (x : Hs) :
  Calls Tryz.prog 68 #[(.pointer (some ⟨wb, 0, none⟩)), x.v] w fun en w' => Post wb E w (aliW O E.L s x) en w' := by
 have k1 := below_alloc w (.cells #[.string x.an, .string x.tg, .int .i64 (x.bi : Nat), .int .i64 (x.bk : Nat)] 125)
 have bh := Bh.new w x
 have hq1 : Okp E (s.p.plus 1) := hp.more (by omega)
 have NM := name100_any LO LN.anchor O.anchor_le (h.on k1) hf ⟨#[]⟩ 1 hq1 (by decide)
 have e1 : ((1 : Nat) : Int) = 1 := rfl
 rw [e1] at NM
 unfold aliW
 have hss : ∀ r : Pl, Sml { s with p := r } := fun r => hs.at r
 cases hnm : namW O E.L O.anchor ⟨#[]⟩ 1 s.p with
 | error c =>
  rw [hnm] at NM
  dsimp only at NM
  clear h bh hnm
  go_enter Tryz.func68, Tryz.ntmps68
  go_wp2_with (first | (go_at_call 99; refine NM.mono ?_; clear NM; rintro en V1 ⟨hk, rfl⟩))
  go_ret
  exact ⟨(Kee.of k1).trans hk, rfl⟩
 | ok res =>
  obtain ⟨nm, r⟩ := res
  rw [hnm] at NM
  dsimp only at NM |-
  have SO := some_any x
  cases hso : x.so with
  | true =>
   rw [hso] at SO
   clear h hnm
   go_enter Tryz.func68, Tryz.ntmps68
   go_wp2_with (first | (go_at_call 99; refine NM.mono ?_; clear NM; rintro en V1 ⟨hk, rfl, hw1⟩; have b1 := bh.kee hk; have y0 := b1.cell 0; have y1 := b1.cell 1; have y2 := b1.cell 2; have y3 := b1.cell 3; simp at y0 y1 y2 y3; have HK : Hid _ := hk; clear b1 hw1 hk) | (go_at_call 102; refine (SO _).mono ?_; clear SO; rintro en V2 ⟨rfl, hB2⟩))
   go_ret
   exact ⟨((Kee.of k1).trans HK.out).trans (Kee.of hB2), rfl⟩
  | false =>
   rw [hso] at SO
   have TL : Hid (∀ V : World, Wk V wb E { s with p := r } ov tv -> Calls Tryz.prog 104 #[(.pointer (some ⟨wb, 0, none⟩)), .agg #[.int .i64 8, .string ⟨#[]⟩, .string ⟨#[]⟩, .string nm, .int .i64 0, .bool false], .int .i64 0] V fun en w' => (∃ v, en = .returned v) /\ Kee wb V w' /\ ∃ ov' tv', Wk w' wb E (telW { s with p := r } ⟨8, ⟨#[]⟩, ⟨#[]⟩, nm, 0, false⟩ 0) ov' tv') := fun V hV => tell_s hV (hss r) ⟨8, ⟨#[]⟩, ⟨#[]⟩, nm, 0, false⟩ 0 (by decide)
   clear h hnm
   go_enter Tryz.func68, Tryz.ntmps68
   go_wp2_with (first | (go_at_call 99; refine NM.mono ?_; clear NM; rintro en V1 ⟨hk, rfl, hw1⟩; have b1 := bh.kee hk; have y0 := b1.cell 0; have y1 := b1.cell 1; have y2 := b1.cell 2; have y3 := b1.cell 3; simp at y0 y1 y2 y3; have HK : Hid _ := hk; have HW : Hid _ := hw1; clear b1 hw1 hk) | (go_at_call 102; refine (SO _).mono ?_; clear SO; rintro en V2 ⟨rfl, hB2⟩; have TX := TL.out V2 (HW.out.on hB2)) | (go_at_call 104; refine TX.mono ?_; clear TX; rintro en V3 ⟨⟨v, rfl⟩, hk3, hw3⟩))
   go_ret
   exact ⟨(((Kee.of k1).trans HK.out).trans (Kee.of hB2)).trans hk3, rfl, hw3⟩
def Bv (w : World) (b : Nat) (l : Lv) : Prop := w.heap[b]? = some (.cells #[.int .i64 l.cl, .bool l.pr, .int .u8 (l.nx : Nat), .int .i64 (l.bi : Nat), .int .i64 (l.bk : Nat), .int .i64 (l.ho : Nat), .int .i64 (l.ta : Nat)] 97)
theorem Bv.cell {w : World} {b : Nat} {l : Lv} (h : Bv w b l) (o : Nat) : w.cell? ⟨b, o, none⟩ = (#[.int .i64 l.cl, .bool l.pr, .int .u8 (l.nx : Nat), .int .i64 (l.bi : Nat), .int .i64 (l.bk : Nat), .int .i64 (l.ho : Nat), .int .i64 (l.ta : Nat)] : Array Value)[o]? := by
 show (match w.heap[b]? with | some (.cells c _ _) => c[o]? | _ => none) = _
 rw [show w.heap[b]? = _ from h]
theorem results_lv {fn : Func} {t : Tmp} (h : fn.results = #[.cell t 97]) {tmps : Array Value} {W : World} {b : Nat} {l : Lv} (hp : tmps.getD t undef = .pointer (some ⟨b, 0, none⟩)) (hb : Bv W b l) : (results fn tmps).run Tryz.prog W = .ok l.v W := by
 have hp' : tmps[t]?.getD undef = .pointer (some ⟨b, 0, none⟩) := by simpa using hp
 have c0 := hb.cell 0
 have c1 := hb.cell 1
 have c2 := hb.cell 2
 have c3 := hb.cell 3
 have c4 := hb.cell 4
 have c5 := hb.cell 5
 have c6 := hb.cell 6
 simp at c0 c1 c2 c3 c4 c5 c6
 simp [results, h, hp', asAddr, go_sem, c0, c1, c2, c3, c4, c5, c6]
theorem cut63 (p : Option Addr) (len cap m : Nat) (hs : m <= cap) (w2 : World) : (Instr.slice 63 (.slice p len cap) none (some (.int .i64 m)) none).run Tryz.prog w2 = .ok (.slice p m cap) w2 := by
 have h0 : (m : Int) <= cap := by omega
 have hu : Tryz.prog.underlying 63 = some (.slice 97) := by kernel_rfl
 have hz : ∀ w, (sizeOf 97).run Tryz.prog w = .ok 7 w := fun w => by kernel_rfl
 cases p with
 | none => simp [go_sem, h0, hu, hz]
 | some a =>
  obtain ⟨b, o, sp⟩ := a
  by_cases hc : cap = 0
  ·subst hc; obtain rfl : m = 0 := by omega
   simp [go_sem, hu, hz]
  ·cases sp <;> simp [go_sem, h0, hc, Addr.add, hu, hz]
theorem row_pop {w : World} {base g cap : Nat} {l : Lv} {r : List Lv} (h : w.ownsRow base 97 7 (.slice (some ⟨g, 0, none⟩) (r.length + 1) cap) (r.length + 1) (flL (l :: r).reverse)) : w.ownsRow base 97 7 (.slice (some ⟨g, 0, none⟩) r.length cap) r.length (flL r.reverse) := by
 obtain ⟨h0, ⟨e1, e2⟩ | ⟨g', cap', cur, e1, hb, hg, h1, h2, h3, h4⟩⟩ := h
 ·cases e1
 ·cases e1
  refine ⟨flL_len' r, .inr ⟨g, cap, cur, rfl, hb, hg, by omega, h2, h3, ?_⟩⟩
  have := congrArg (List.take (r.length * 7)) h4
  rw [List.take_take, Nat.min_eq_left (by omega), flL_top, List.take_append_of_le_length (by rw [flL_len']; omega)] at this
  rw [this]
  exact List.take_of_length_le (by rw [flL_len']; omega)
abbrev yzag0 (w : World) : World := (w.alloc (.cells #[.int .i64 0, .bool false, .int .u8 0, .int .i64 0, .int .i64 0, .int .i64 0, .int .i64 0] 97))
theorem pop_any {w : World} {wb : Nat} {E : Env} {s : St} {ov tv : Value} {l : Lv} {r : List Lv} (h : Wk w wb E s ov tv) (hop : s.op = l :: r) (hl : r.length <= 1073741824) :
  Calls Tryz.prog 125 #[(.pointer (some ⟨wb, 6, none⟩))] w fun en w' => en = .returned l.v /\ Kee wb w w' /\ ∃ ov', Wk w' wb E { s with op := r } ov' tv := by
 obtain ⟨g, cap, rfl, b1, b2, b3, b4, b5, b6, cur, b7⟩ := h.top hop
 refine (callsIn_wide (n := 9)).1 ?_
 have hwl := h.lt
 have kA := below_alloc w (.cells #[.int .i64 0, .bool false, .int .u8 0, .int .i64 0, .int .i64 0, .int .i64 0, .int .i64 0] 97)
 have TP := fun m => (callsIn_wide (n := m)).2 (top_any (l := l) (h.on kA) hl)
 have hwA : (yzag0 w).heap.size = w.heap.size + 1 := by simp
 have FA : Hid (∀ V1 : World, Below (yzag0 w).heap.size (yzag0 w) V1 -> Below w.heap.size w V1 /\ w.heap.size < V1.heap.size /\ (∀ j, j < 7 -> V1.cell? ⟨g, r.length * 7 + j, none⟩ = l.c[j]?) /\ Bv (V1.alloc (.cells #[.int .i64 l.cl, .bool l.pr, .int .u8 (l.nx : Nat), .int .i64 (l.bi : Nat), .int .i64 (l.bk : Nat), .int .i64 (l.ho : Nat), .int .i64 (l.ta : Nat)] 97)) V1.heap.size l /\ (V1.alloc (.cells #[.int .i64 l.cl, .bool l.pr, .int .u8 (l.nx : Nat), .int .i64 (l.bi : Nat), .int .i64 (l.bk : Nat), .int .i64 (l.ho : Nat), .int .i64 (l.ta : Nat)] 97)).heap[w.heap.size]? = some (.cells #[.int .i64 0, .bool false, .int .u8 0, .int .i64 0, .int .i64 0, .int .i64 0, .int .i64 0] 97) /\ Wk (V1.alloc (.cells #[.int .i64 l.cl, .bool l.pr, .int .u8 (l.nx : Nat), .int .i64 (l.bi : Nat), .int .i64 (l.bk : Nat), .int .i64 (l.ho : Nat), .int .i64 (l.ta : Nat)] 97)) wb E s (.slice (some ⟨g, 0, none⟩) (r.length + 1) cap) tv) := fun V1 hB => by
  have a1 := kA.trans (hB.mono (by rw [hwA]; omega))
  have hw1 := h.on a1
  have a0 : w.heap.size < V1.heap.size := by have := hB.size; omega
  obtain ⟨g', cap', e', -, -, -, -, c5, -, -⟩ := hw1.top hop
  cases e'
  exact ⟨a1, a0, fun j hj => (c5 j).resolve_right (by omega), World.alloc_heap_new V1 _, (Below.heap_alloc _ _ _ a0).trans ((hB.block w.heap.size (by rw [hwA]; omega)).trans (World.alloc_heap_new w _)), hw1.on (below_alloc V1 _)⟩
 have CT := cut63 (some ⟨g, 0, none⟩) (r.length + 1) cap r.length (by omega)
 have hli : (r.length : Int) <= 1073741824 := by omega
 have hcm : (cap : Int) <= 9223372036854775807 := by unfold maxLen at b4; omega
 refine callsIn_of_wp Tryz.func125 rfl trivial ?_ rfl
 simp only [Tryz.ntmps125, frm, Nat.reduceAdd, Nat.reduceSub]
 clear b5 b6 b7
 gi_wp2
 first | refine tr2 ?_ | refine tr1 ?_
 gi_at_call 73
 refine (TP _).mono ?_
 clear TP
 rintro en V1 ⟨rfl, hB1⟩
 obtain ⟨a1, a2, a3, a4, a5, a6⟩ := FA.out V1 hB1
 have y0 := a3 0 (by decide)
 have y1 := a3 1 (by decide)
 have y2 := a3 2 (by decide)
 have y3 := a3 3 (by decide)
 have y4 := a3 4 (by decide)
 have y5 := a3 5 (by decide)
 have y6 := a3 6 (by decide)
 simp [Lv.c] at y0 y1 y2 y3 y4 y5 y6
 have HA : Hid (Below w.heap.size w V1 /\ w.heap.size < V1.heap.size /\ Bv (V1.alloc (.cells #[.int .i64 l.cl, .bool l.pr, .int .u8 (l.nx : Nat), .int .i64 (l.bi : Nat), .int .i64 (l.bk : Nat), .int .i64 (l.ho : Nat), .int .i64 (l.ta : Nat)] 97)) V1.heap.size l /\ (V1.alloc (.cells #[.int .i64 l.cl, .bool l.pr, .int .u8 (l.nx : Nat), .int .i64 (l.bi : Nat), .int .i64 (l.bk : Nat), .int .i64 (l.ho : Nat), .int .i64 (l.ta : Nat)] 97)).heap[w.heap.size]? = some (.cells #[.int .i64 0, .bool false, .int .u8 0, .int .i64 0, .int .i64 0, .int .i64 0, .int .i64 0] 97) /\ Wk (V1.alloc (.cells #[.int .i64 l.cl, .bool l.pr, .int .u8 (l.nx : Nat), .int .i64 (l.bi : Nat), .int .i64 (l.bk : Nat), .int .i64 (l.ho : Nat), .int .i64 (l.ta : Nat)] 97)) wb E s (.slice (some ⟨g, 0, none⟩) (r.length + 1) cap) tv) := ⟨a1, a2, a4, a5, a6⟩
 have c6 := a6.cell 6
 have f6 := a6.frozen 6
 simp at c6
 clear FA a1 a2 a3 a4 a5 a6
 gi_wp2
 have KB : Kee wb V1 (V1.alloc (.cells #[.int .i64 l.cl, .bool l.pr, .int .u8 (l.nx : Nat), .int .i64 (l.bi : Nat), .int .i64 (l.bk : Nat), .int .i64 (l.ho : Nat), .int .i64 (l.ta : Nat)] 97)) := Kee.alloc _ _ _
 generalize (V1.alloc (.cells #[.int .i64 l.cl, .bool l.pr, .int .u8 (l.nx : Nat), .int .i64 (l.bi : Nat), .int .i64 (l.bk : Nat), .int .i64 (l.ho : Nat), .int .i64 (l.ta : Nat)] 97)) = B at HA c6 f6 KB |-
 refine region_pickS (Til 14 (Tw B wb wb)) (by kernel_rfl) ?_
 show AnyS _ _ _ _ _ _ 15 _ ⟨#[_,_,_,_,_,_,_,_,_,_,_,_,_,_,_,_,_,_,_,_,_,_,_], []⟩ B.drew
 refine .tk 0 (.pointer (some ⟨wb, 6, none⟩)) wideF rfl (.inl ⟨rfl, fun w _ => by go_simp⟩) (fun _ => (show Tw B wb wb B.drew from ⟨rfl, rfl⟩)) ?_
 refine .tk 1 (.pointer (some ⟨wb, 6, none⟩)) wideF rfl (.inl ⟨rfl, fun w _ => by go_simp⟩) (fun _ => (show Tw B wb wb B.drew from ⟨rfl, rfl⟩)) ?_
 refine .tk 2 (.pointer (some ⟨wb, 6, none⟩)) wideF rfl (.inl ⟨rfl, fun w _ => by go_simp⟩) (fun _ => (show Tw B wb wb B.drew from ⟨rfl, rfl⟩)) ?_
 refine .tk 3 (.pointer (some ⟨wb, 6, none⟩)) wideF rfl (.inl ⟨rfl, fun w _ => by go_simp⟩) (fun _ => (show Tw B wb wb B.drew from ⟨rfl, rfl⟩)) ?_
 refine .tk 4 (.slice (some ⟨g, 0, none⟩) (r.length + 1) cap) wideF rfl (til_tells (s := 14) [11, 14] (by kernel_rfl) rfl rfl (fun w hw => by have a1 := hw.cell c6; go_simp)) (fun _ => (show Tw B wb wb B.drew from ⟨rfl, rfl⟩)) ?_
 refine .tk 5 (.pointer (some ⟨wb, 6, none⟩)) wideF rfl (.inl ⟨rfl, fun w _ => by go_simp⟩) (fun _ => (show Tw B wb wb B.drew from ⟨rfl, rfl⟩)) ?_
 show AnyS _ _ _ _ _ _ 9 _ ⟨#[_,_,_,_,_,_,_,_,_,_,_,_,_,_,_,_,_,_,_,_,_,_,_], []⟩ _
 refine .tk 6 (.pointer (some ⟨wb, 6, none⟩)) wideF rfl (.inl ⟨rfl, fun w _ => by go_simp⟩) (fun _ => (show Tw B wb wb B.drew from ⟨rfl, rfl⟩)) ?_
 refine .tk 7 (.pointer (some ⟨wb, 6, none⟩)) wideF rfl (.inl ⟨rfl, fun w _ => by go_simp⟩) (fun _ => (show Tw B wb wb B.drew from ⟨rfl, rfl⟩)) ?_
 refine .tk 8 (.slice (some ⟨g, 0, none⟩) (r.length + 1) cap) wideF rfl (til_tells (s := 14) [9, 10, 11, 14] (by kernel_rfl) rfl rfl (fun w hw => by have a1 := hw.cell c6; go_simp)) (fun _ => (show Tw B wb wb B.drew from ⟨rfl, rfl⟩)) ?_
 refine .tk 9 (.int .i64 ((r.length : Int) + 1)) wideF rfl (.inl ⟨rfl, fun w _ => by go_simp⟩) (fun _ => (show Tw B wb wb B.drew from ⟨rfl, rfl⟩)) ?_
 refine .tk 10 (.int .i64 (r.length : Nat)) wideF rfl (.inl ⟨rfl, fun w _ => by (go_simp; rw [IntKind.wrap_i64]; omega)⟩) (fun _ => (show Tw B wb wb B.drew from ⟨rfl, rfl⟩)) ?_
 refine .tk 11 (.slice (some ⟨g, 0, none⟩) r.length cap) wideF rfl (.inl ⟨rfl, fun w _ => by go_simp⟩) (fun _ => (show Tw B wb wb B.drew from ⟨rfl, rfl⟩)) ?_
 show AnyS _ _ _ _ _ _ 3 _ ⟨#[_,_,_,_,_,_,_,_,_,_,_,_,_,_,_,_,_,_,_,_,_,_,_], []⟩ _
 refine .tk 12 (.pointer (some ⟨wb, 6, none⟩)) wideF rfl (.inl ⟨rfl, fun w _ => by go_simp⟩) (fun _ => (show Tw B wb wb B.drew from ⟨rfl, rfl⟩)) ?_
 refine .tk 13 (.pointer (some ⟨wb, 6, none⟩)) wideF rfl (.inl ⟨rfl, fun w _ => by go_simp⟩) (fun _ => (show Tw B wb wb B.drew from ⟨rfl, rfl⟩)) ?_
 refine AnyS.one (i := 14) (by kernel_rfl) rfl rfl (fun K hK => ?_)
 go_simp
 refine hK _ _ (fun h => by cases h) ?_
 clear hK K
 show AnyS _ _ _ _ _ _ 0 _ ⟨#[_,_,_,_,_,_,_,_,_,_,_,_,_,_,_,_,_,_,_,_,_,_,_], []⟩ _
 refine AnyS.done (by kernel_rfl) ?_
 rename_i Kb hKb
 refine hKb _ _ ?_
 clear hKb
 obtain ⟨a1, a2, a4, a5, a6⟩ := HA.out
 have hrow := a6.op
 rw [hop] at hrow
 have hk := (a6.setO (op := r) (row_pop hrow)).drew
 have hwb1 : V1.heap.size ≠ wb := by omega
 have hbv : Bv (B.setCell ⟨wb, 6, none⟩ (.slice (some ⟨g, 0, none⟩) r.length cap)).drew V1.heap.size l := (Below.heap_setCell _ _ _ _ hwb1).trans a4
 have hz : (B.setCell ⟨wb, 6, none⟩ (.slice (some ⟨g, 0, none⟩) r.length cap)).drew.heap[w.heap.size]? = some (.cells #[.int .i64 0, .bool false, .int .u8 0, .int .i64 0, .int .i64 0, .int .i64 0, .int .i64 0] 97) := (Below.heap_setCell _ _ _ _ (show w.heap.size ≠ wb by omega)).trans a5
 have kk : Kee wb w (B.setCell ⟨wb, 6, none⟩ (.slice (some ⟨g, 0, none⟩) r.length cap)).drew := (((Kee.of a1).trans (KB : Kee wb V1 B)).trans (a6.kee 6 _)).trans (Kee.of ((Below.refl _ _).drew))
 generalize (B.setCell ⟨wb, 6, none⟩ (.slice (some ⟨g, 0, none⟩) r.length cap)).drew = C at hk hbv hz kk |-
 have v0 := hbv.cell 0
 have v1 := hbv.cell 1
 have v2 := hbv.cell 2
 have v3 := hbv.cell 3
 have v4 := hbv.cell 4
 have v5 := hbv.cell 5
 have v6 := hbv.cell 6
 simp at v0 v1 v2 v3 v4 v5 v6
 have fz : ∀ o, C.frozen? ⟨w.heap.size, o, none⟩ = false := fun o => by simp [World.frozen?, hz]
 have cz : ∀ o, C.cell? ⟨w.heap.size, o, none⟩ = (#[.int .i64 0, .bool false, .int .u8 0, .int .i64 0, .int .i64 0, .int .i64 0, .int .i64 0] : Array Value)[o]? := fun o => by
  show (match C.heap[w.heap.size]? with | some (.cells c _ _) => c[o]? | _ => none) = _
  rw [hz]
 have fz0 := fz 0
 have fz1 := fz 1
 have fz2 := fz 2
 have fz3 := fz 3
 have fz4 := fz 4
 have fz5 := fz 5
 have fz6 := fz 6
 have cz0 := cz 0
 have cz1 := cz 1
 have cz2 := cz 2
 have cz3 := cz 3
 have cz4 := cz 4
 have cz5 := cz 5
 have cz6 := cz 6
 simp at cz0 cz1 cz2 cz3 cz4 cz5 cz6
 have HD : Hid (Bv ((((((((C.setCell ⟨w.heap.size, 0, none⟩ (.int .i64 l.cl)).setCell ⟨w.heap.size, 1, none⟩ (.bool l.pr)).setCell ⟨w.heap.size, 2, none⟩ (.int .u8 (l.nx : Nat))).setCell ⟨w.heap.size, 3, none⟩ (.int .i64 (l.bi : Nat))).setCell ⟨w.heap.size, 4, none⟩ (.int .i64 (l.bk : Nat))).setCell ⟨w.heap.size, 5, none⟩ (.int .i64 (l.ho : Nat))).setCell ⟨w.heap.size, 6, none⟩ (.int .i64 (l.ta : Nat)))) w.heap.size l /\ Wk ((((((((C.setCell ⟨w.heap.size, 0, none⟩ (.int .i64 l.cl)).setCell ⟨w.heap.size, 1, none⟩ (.bool l.pr)).setCell ⟨w.heap.size, 2, none⟩ (.int .u8 (l.nx : Nat))).setCell ⟨w.heap.size, 3, none⟩ (.int .i64 (l.bi : Nat))).setCell ⟨w.heap.size, 4, none⟩ (.int .i64 (l.bk : Nat))).setCell ⟨w.heap.size, 5, none⟩ (.int .i64 (l.ho : Nat))).setCell ⟨w.heap.size, 6, none⟩ (.int .i64 (l.ta : Nat)))) wb E { s with op := r } (.slice (some ⟨g, 0, none⟩) r.length cap) tv /\ Kee wb w ((((((((C.setCell ⟨w.heap.size, 0, none⟩ (.int .i64 l.cl)).setCell ⟨w.heap.size, 1, none⟩ (.bool l.pr)).setCell ⟨w.heap.size, 2, none⟩ (.int .u8 (l.nx : Nat))).setCell ⟨w.heap.size, 3, none⟩ (.int .i64 (l.bi : Nat))).setCell ⟨w.heap.size, 4, none⟩ (.int .i64 (l.bk : Nat))).setCell ⟨w.heap.size, 5, none⟩ (.int .i64 (l.ho : Nat))).setCell ⟨w.heap.size, 6, none⟩ (.int .i64 (l.ta : Nat))))) := by
  refine ⟨?_, ?_, ((((((kk.new (Nat.le_refl _) _).new (Nat.le_refl _) _).new (Nat.le_refl _) _).new (Nat.le_refl _) _).new (Nat.le_refl _) _).new (Nat.le_refl _) _).new (Nat.le_refl _) _⟩
  ·unfold Bv
   simp only [World.setCell, Array.getElem?_modify, hz, if_true, Option.map_some]
   rfl
  ·have F : ∀ (D : World) (o : Nat) (v : Value), Wk D wb E { s with op := r } (.slice (some ⟨g, 0, none⟩) r.length cap) tv -> (∀ g2, tv.ownBlock = some g2 -> g2 ≠ w.heap.size) -> Wk (D.setCell ⟨w.heap.size, o, none⟩ v) wb E { s with op := r } (.slice (some ⟨g, 0, none⟩) r.length cap) tv := fun D o v hD ht => by
    refine ⟨(Below.heap_setCell _ _ _ _ (show wb ≠ w.heap.size by omega)).trans hD.blk, hD.lin.on ((Below.refl wb D).setCell (p := ⟨w.heap.size, o, none⟩) (show wb <= w.heap.size by omega) _), row_same hD.op fun g2 e => Below.heap_setCell _ _ _ _ ?_, row_same hD.to fun g2 e => Below.heap_setCell _ _ _ _ (ht g2 e)⟩
    cases e
    show g ≠ w.heap.size
    omega
   have ht : ∀ g2, tv.ownBlock = some g2 -> g2 ≠ w.heap.size := fun g2 e => by
    obtain ⟨-, cur2, h2⟩ := row_type h.to e
    have := (Array.getElem?_eq_some_iff.1 h2).1
    omega
   exact F _ _ _ (F _ _ _ (F _ _ _ (F _ _ _ (F _ _ _ (F _ _ _ (F _ _ _ hk ht) ht) ht) ht) ht) ht) ht
 clear hk hbv hz kk fz cz a4 a5 a6 HA
 gi_wp2
 refine bodyPost_ret (results_lv rfl rfl HD.out.1) rfl ⟨rfl, HD.out.2.2, _, HD.out.2.1⟩
theorem Sml.less {s : St} {l : Lv} {r : List Lv} (h : Sml s) (hop : s.op = l :: r) : Sml { s with op := r } :=
 ⟨h.to, by have := h.op; rw [hop] at this; simp at this; show r.length <= _; omega, h.ta, fun k hk => h.la k (by rw [hop]; exact List.mem_cons_of_mem _ hk)⟩
theorem Sml.rl {s : St} {l : Lv} {r : List Lv} (h : Sml s) (hop : s.op = l :: r) : r.length <= 1073741824 := by have := h.op; rw [hop] at this; simp at this; omega
theorem close_any {w : World} {wb : Nat} {E : Env} {s : St} {ov tv : Value} {l : Lv} {r : List Lv} (h : Wk w wb E s ov tv) (hs : Sml s) (hop : s.op = l :: r) :
  Calls Tryz.prog 77 #[(.pointer (some ⟨wb, 0, none⟩))] w fun en w' => (∃ v, en = .returned v) /\ Kee wb w w' /\ ∃ ov' tv', Wk w' wb E (cloS s) ov' tv' := by
 have PO := pop_any h hop (hs.rl hop)
 have hla := hs.la l (by rw [hop]; exact List.mem_cons_self)
 obtain ⟨cl, pr, nx, bi, bk, ho, ta⟩ := l
 dsimp only at hla
 have hli : (ta : Int) <= 1000000000 := by omega
 by_cases h93 : cl = 93
 ·subst h93
  cases pr with
  | false =>
  have he : cloS s = telW { s with op := r } ⟨4, ⟨#[]⟩, ⟨#[]⟩, ⟨#[]⟩, 0, false⟩ (ta + 1) := by unfold cloS; rw [hop]; dsimp only; rw [if_pos ⟨rfl, rfl⟩]
  have TL : Hid (∀ (V : World) ov', Wk V wb E { s with op := r } ov' tv -> Calls Tryz.prog 104 #[(.pointer (some ⟨wb, 0, none⟩)), .agg #[.int .i64 4, .string ⟨#[]⟩, .string ⟨#[]⟩, .string ⟨#[]⟩, .int .i64 0, .bool false], .int .i64 ((ta : Int) + 1)] V fun en w' => (∃ v, en = .returned v) /\ Kee wb V w' /\ ∃ ov' tv', Wk w' wb E (cloS s) ov' tv') := fun V ov' hV => by
   have := tell_s hV (hs.less hop) ⟨4, ⟨#[]⟩, ⟨#[]⟩, ⟨#[]⟩, 0, false⟩ (ta + 1) (by omega)
   rw [<- he, show ((ta + 1 : Nat) : Int) = (ta : Int) + 1 by omega] at this
   exact this
  clear he h hs
  go_enter Tryz.func77, Tryz.ntmps77
  go_wp2_with (first | (go_at_call 125; refine PO.mono ?_; clear PO; rintro en V1 ⟨rfl, hk1, ov1, hw1⟩; have bx := box_new V1 #[.int .i64 93, .bool false, .int .u8 (nx : Nat), .int .i64 (bi : Nat), .int .i64 (bk : Nat), .int .i64 (ho : Nat), .int .i64 (ta : Nat)] 97; have y0 := bx 0; have y1 := bx 1; have y6 := bx 6; simp at y0 y1 y6; have TX := TL.out (V1.alloc (.cells #[.int .i64 93, .bool false, .int .u8 (nx : Nat), .int .i64 (bi : Nat), .int .i64 (bk : Nat), .int .i64 (ho : Nat), .int .i64 (ta : Nat)] 97)) ov1 (hw1.on (below_alloc V1 _)); have HK : Hid _ := hk1; clear bx hw1 hk1) | (go_at_call 104; refine TX.mono ?_; clear TX; rintro en V2 ⟨⟨v, rfl⟩, hk2, hw2⟩))
  go_end0
  exact ⟨⟨_, rfl⟩, (HK.out.trans (Kee.alloc _ _ _)).trans hk2, hw2⟩
  | true =>
  have he : cloS s = telW { s with op := r } ⟨6, ⟨#[]⟩, ⟨#[]⟩, ⟨#[]⟩, 0, false⟩ (ta + 1) := by unfold cloS; rw [hop]; dsimp only; rw [if_neg (by simp)]
  have TL : Hid (∀ (V : World) ov', Wk V wb E { s with op := r } ov' tv -> Calls Tryz.prog 104 #[(.pointer (some ⟨wb, 0, none⟩)), .agg #[.int .i64 6, .string ⟨#[]⟩, .string ⟨#[]⟩, .string ⟨#[]⟩, .int .i64 0, .bool false], .int .i64 ((ta : Int) + 1)] V fun en w' => (∃ v, en = .returned v) /\ Kee wb V w' /\ ∃ ov' tv', Wk w' wb E (cloS s) ov' tv') := fun V ov' hV => by
   have := tell_s hV (hs.less hop) ⟨6, ⟨#[]⟩, ⟨#[]⟩, ⟨#[]⟩, 0, false⟩ (ta + 1) (by omega)
   rw [<- he, show ((ta + 1 : Nat) : Int) = (ta : Int) + 1 by omega] at this
   exact this
  clear he h hs
  go_enter Tryz.func77, Tryz.ntmps77
  go_wp2_with (first | (go_at_call 125; refine PO.mono ?_; clear PO; rintro en V1 ⟨rfl, hk1, ov1, hw1⟩; have bx := box_new V1 #[.int .i64 93, .bool true, .int .u8 (nx : Nat), .int .i64 (bi : Nat), .int .i64 (bk : Nat), .int .i64 (ho : Nat), .int .i64 (ta : Nat)] 97; have y0 := bx 0; have y1 := bx 1; have y6 := bx 6; simp at y0 y1 y6; have TX := TL.out (V1.alloc (.cells #[.int .i64 93, .bool true, .int .u8 (nx : Nat), .int .i64 (bi : Nat), .int .i64 (bk : Nat), .int .i64 (ho : Nat), .int .i64 (ta : Nat)] 97)) ov1 (hw1.on (below_alloc V1 _)); have HK : Hid _ := hk1; clear bx hw1 hk1) | (go_at_call 104; refine TX.mono ?_; clear TX; rintro en V2 ⟨⟨v, rfl⟩, hk2, hw2⟩))
  go_end0
  exact ⟨⟨_, rfl⟩, (HK.out.trans (Kee.alloc _ _ _)).trans hk2, hw2⟩
 ·have e93 : (cl == 93) = false := by rw [beq_eq_false_iff_ne]; exact h93
  have he : cloS s = telW { s with op := r } ⟨6, ⟨#[]⟩, ⟨#[]⟩, ⟨#[]⟩, 0, false⟩ (ta + 1) := by unfold cloS; rw [hop]; dsimp only; rw [if_neg (fun h => h93 h.1)]
  have TL : Hid (∀ (V : World) ov', Wk V wb E { s with op := r } ov' tv -> Calls Tryz.prog 104 #[(.pointer (some ⟨wb, 0, none⟩)), .agg #[.int .i64 6, .string ⟨#[]⟩, .string ⟨#[]⟩, .string ⟨#[]⟩, .int .i64 0, .bool false], .int .i64 ((ta : Int) + 1)] V fun en w' => (∃ v, en = .returned v) /\ Kee wb V w' /\ ∃ ov' tv', Wk w' wb E (cloS s) ov' tv') := fun V ov' hV => by
   have := tell_s hV (hs.less hop) ⟨6, ⟨#[]⟩, ⟨#[]⟩, ⟨#[]⟩, 0, false⟩ (ta + 1) (by omega)
   rw [<- he, show ((ta + 1 : Nat) : Int) = (ta : Int) + 1 by omega] at this
   exact this
  clear he h hs
  go_enter Tryz.func77, Tryz.ntmps77
  go_wp2_with (first | (go_at_call 125; refine PO.mono ?_; clear PO; rintro en V1 ⟨rfl, hk1, ov1, hw1⟩; have bx := box_new V1 #[.int .i64 cl, .bool pr, .int .u8 (nx : Nat), .int .i64 (bi : Nat), .int .i64 (bk : Nat), .int .i64 (ho : Nat), .int .i64 (ta : Nat)] 97; have y0 := bx 0; have y1 := bx 1; have y6 := bx 6; simp at y0 y1 y6; have TX := TL.out (V1.alloc (.cells #[.int .i64 cl, .bool pr, .int .u8 (nx : Nat), .int .i64 (bi : Nat), .int .i64 (bk : Nat), .int .i64 (ho : Nat), .int .i64 (ta : Nat)] 97)) ov1 (hw1.on (below_alloc V1 _)); have HK : Hid _ := hk1; clear bx hw1 hk1) | (go_at_call 104; refine TX.mono ?_; clear TX; rintro en V2 ⟨⟨v, rfl⟩, hk2, hw2⟩))
  go_end0
  exact ⟨⟨_, rfl⟩, (HK.out.trans (Kee.alloc _ _ _)).trans hk2, hw2⟩
theorem openPair_any {w : World} {wb : Nat} {E : Env} {s : St} {ov tv : Value} {l : Lv} {r : List Lv} (h : Wk w wb E s ov tv) (hs : Sml s) (hop : s.op = l :: r) (t : Nat) :
  Calls Tryz.prog 123 #[(.pointer (some ⟨wb, 0, none⟩)), .int .i64 (t : Nat)] w fun en w' => (∃ v, en = .returned v) /\ Kee wb w w' /\ ∃ ov', Wk w' wb E (paiS s t) ov' tv := by
 obtain ⟨g, cap, rfl, b1, b2, b3, b4, b5, b6, cur, b7⟩ := h.top hop
 have TP := top_any (l := l) h (hs.rl hop)
 have FA : Hid (∀ V1 : World, Below w.heap.size w V1 -> V1.cell? ⟨g, r.length * 7 + 2, none⟩ = some (.int .u8 (l.nx : Nat)) /\ V1.frozen? ⟨g, r.length * 7 + 2, none⟩ = false /\ Kee wb w (V1.setCell ⟨g, r.length * 7 + 2, none⟩ (.int .u8 4)) /\ Calls Tryz.prog 112 #[(.pointer (some ⟨wb, 6, none⟩)), .agg #[.int .i64 93, .bool true, .int .u8 2, .int .i64 0, .int .i64 0, .int .i64 0, .int .i64 (t : Nat)]] (V1.setCell ⟨g, r.length * 7 + 2, none⟩ (.int .u8 4)) fun en w' => (∃ v, en = .returned v) /\ Kee wb (V1.setCell ⟨g, r.length * 7 + 2, none⟩ (.int .u8 4)) w' /\ ∃ ov', Wk w' wb E (paiS s t) ov' tv) := fun V1 hB => by
  have h1 := h.on hB
  obtain ⟨g3, cap3, e3, -, -, -, -, c5, c6, -⟩ := h1.top (l := l) (r := r) hop
  cases e3
  have c2 := c5 2
  simp [Lv.c] at c2
  obtain ⟨q1, q2⟩ := h1.setL (l := l) (l' := { l with nx := 4 }) (r := r) (j := 2) (x := .int .u8 4) hop (by decide) rfl
  have hl := hs.op
  rw [hop] at hl
  refine ⟨c2, c6 _, (Kee.of hB).trans q2, ?_⟩
  have := push_any q1 (by show (_ :: r).length <= _; simp at hl |-; omega) ⟨93, true, 2, 0, 0, 0, t⟩
  have he : paiS s t = { p := s.p, op := ⟨93, true, 2, 0, 0, 0, t⟩ :: { l with nx := 4 } :: r, to := s.to, ta := s.ta } := by unfold paiS topS; rw [hop]
  rw [he]
  exact this
 clear h hs b1 b2 b3 b4 b5 b6 b7
 go_enter Tryz.func123, Tryz.ntmps123
 go_wp2_with (first | (go_at_call 73; refine TP.mono ?_; clear TP; rintro en V1 ⟨rfl, hB1⟩; obtain ⟨a1, a2, a3, PU⟩ := FA.out V1 hB1; have HA : Hid _ := a3; clear a3) | (go_at_call 112; refine PU.mono ?_; clear PU; rintro en V2 ⟨⟨v, rfl⟩, hk2, hw2⟩))
 go_end0
 exact ⟨⟨_, rfl⟩, HA.out.trans hk2, hw2⟩
theorem opens_any {w : World} {wb : Nat} {E : Env} {s : St} {ov tv : Value} (h : Wk w wb E s ov tv) (hs : Sml s) (hf : Fine E) (hp : Okp E s.p) (x : Hs) (c : Int) (hc : c = 91 \/ c = 123) :
  Calls Tryz.prog 70 #[(.pointer (some ⟨wb, 0, none⟩)), x.v, .int .i64 c] w fun en w' => Post wb E w (opeW E.d s x c) en w' := by
 refine (callsIn_wide (n := 9)).1 ?_
 have k1 := below_alloc w (.cells #[.string x.an, .string x.tg, .int .i64 (x.bi : Nat), .int .i64 (x.bk : Nat)] 125)
 have bh := Bh.new w x
 have TD := fun m => (callsIn_wide (n := m)).2 (tooDeep_any (h.on k1) hf (by have := hs.op; omega) 0 (by decide))
 have e0 : ((0 : Nat) : Int) = 0 := rfl
 rw [e0] at TD
 have hpk := hp.lek hf
 unfold opeW
 have FA : Hid (∀ V0 : World, Below (w.alloc (.cells #[.string x.an, .string x.tg, .int .i64 (x.bi : Nat), .int .i64 (x.bk : Nat)] 125)).heap.size (w.alloc (.cells #[.string x.an, .string x.tg, .int .i64 (x.bi : Nat), .int .i64 (x.bk : Nat)] 125)) V0 -> Kee wb w V0 /\ Bh V0 w.heap.size x /\ Wk V0 wb E s ov tv) := fun V0 hB => by
  have a1 := k1.trans (hB.mono (by simp))
  exact ⟨Kee.of a1, bh.on hB, h.on a1⟩
 refine callsIn_of_wp Tryz.func70 rfl trivial ?_ rfl
 simp only [Tryz.ntmps70, frm, Nat.reduceAdd, Nat.reduceSub]
 cases hd : deeW E.d s 0 with
 | true =>
  rw [hd] at TD
  clear hd h bh
  gi_wp2
  first | refine tr2 ?_ | refine tr1 ?_
  gi_at_call 111
  refine (TD _).mono ?_
  rintro en V0 ⟨rfl, hB0⟩
  have HA : Hid _ := (FA.out V0 hB0).1
  clear FA TD
  gi_wp2
  go_ret
  exact ⟨HA.out, rfl⟩
 | false =>
  rw [hd] at TD
  clear hd h bh
  rw [if_neg (by simp)]
  gi_wp2
  first | refine tr2 ?_ | refine tr1 ?_
  gi_at_call 111
  refine (TD _).mono ?_
  rintro en V0 ⟨rfl, hB0⟩
  obtain ⟨kV, bhV, hW⟩ := FA.out V0 hB0
  have x0 := bhV.cell 0
  have x1 := bhV.cell 1
  have c7 := hW.cell 7
  simp at x0 x1 c7
  clear FA TD hB0
  by_cases h123 : c = 123
  ·subst h123
   obtain ⟨g, cap, w1, hr, hgn, hov, f7, g7, kk, hk⟩ := told_push hW (by have := hs.to; omega) ⟨5, ⟨#[]⟩, x.tg, x.an, 0, true⟩
   have hvb : w.heap.size < V0.heap.size := bhV.lt
   have T0 : Tw V0 wb w.heap.size V0.drew := ⟨rfl, rfl⟩
   have T1 : Tw V0 wb w.heap.size ((V0.alloc (.cells #[.int .i64 5, .string ⟨#[]⟩, .string x.tg, .string x.an, .int .i64 0, .bool true] 50)).drew) := ⟨Below.heap_alloc _ _ _ hW.lt, Below.heap_alloc _ _ _ hvb⟩
   have T2 : Tw V0 wb w.heap.size w1 := ⟨hgn wb hW.lt (fun e => by have := (hov _ e.symm).1; omega), hgn w.heap.size hvb (fun e => by
    obtain ⟨-, -, cur, a1⟩ := hov _ e.symm
    rw [show V0.heap[w.heap.size]? = _ from bhV] at a1
    cases a1)⟩
   obtain ⟨W3, hW3⟩ : ∃ W3, w1.setCell ⟨wb, 7, none⟩ (.slice (some ⟨g, 0, none⟩) (s.to.length + 1) cap) = W3 := ⟨_, rfl⟩
   rw [hW3] at hk kk
   have PU := fun m => (callsIn_wide (n := m)).2 (push_any hk (by have := hs.op; show s.op.length <= _; omega) ⟨125, false, 0, 0, 0, 0, 0⟩)
   have HKK : Hid _ := kk
   clear hgn hov kk hk
   gi_wp2
   refine region_pickS (Til 15 (Tw V0 wb w.heap.size)) (by kernel_rfl) ?_
   show AnyS _ _ _ _ _ _ 16 _ ⟨#[_,_,_,_,_,_,_,_,_,_,_,_,_,_,_,_,_,_,_,_,_,_,_,_,_,_,_,_,_,_,_,_,_,_,_,_,_,_,_,_,_,_,_], []⟩ V0.drew
   refine .tk 0 (.pointer (some ⟨wb, 0, none⟩)) wideF rfl (.inl ⟨rfl, fun w _ => by go_simp⟩) (fun _ => T0) ?_
   refine .tk 1 (.pointer (some ⟨wb, 0, none⟩)) wideF rfl (.inl ⟨rfl, fun w _ => by go_simp⟩) (fun _ => T0) ?_
   refine .tk 2 (.pointer (some ⟨wb, 0, none⟩)) wideF rfl (.inl ⟨rfl, fun w _ => by go_simp⟩) (fun _ => T0) ?_
   refine .tk 3 (.pointer (some ⟨wb, 7, none⟩)) wideF rfl (.inl ⟨rfl, fun w _ => by go_simp⟩) (fun _ => T0) ?_
   refine .tk 4 tv wideF rfl (til_tells (s := 15) [12, 15] (by kernel_rfl) rfl rfl (fun w hw => by have a1 := hw.cell c7; go_simp)) (fun _ => T0) ?_
   refine .tk 5 (.int .i64 5) wideF rfl (.inl ⟨rfl, fun w _ => by go_simp⟩) (fun _ => T0) ?_
   show AnyS _ _ _ _ _ _ 10 _ ⟨#[_,_,_,_,_,_,_,_,_,_,_,_,_,_,_,_,_,_,_,_,_,_,_,_,_,_,_,_,_,_,_,_,_,_,_,_,_,_,_,_,_,_,_], []⟩ _
   refine .tk 6 (.pointer (some ⟨w.heap.size, 1, none⟩)) wideF rfl (.inl ⟨rfl, fun w _ => by go_simp⟩) (fun _ => T0) ?_
   refine .tk 7 (.string x.tg) wideF rfl (til_tells (s := 15) [10, 11, 12, 15] (by kernel_rfl) rfl rfl (fun w hw => by have a1 := hw.box x1; go_simp)) (fun _ => T0) ?_
   refine .tk 8 (.pointer (some ⟨w.heap.size, 0, none⟩)) wideF rfl (.inl ⟨rfl, fun w _ => by go_simp⟩) (fun _ => T0) ?_
   refine .tk 9 (.string x.an) wideF rfl (til_tells (s := 15) [10, 11, 12, 15] (by kernel_rfl) rfl rfl (fun w hw => by have a1 := hw.box x0; go_simp)) (fun _ => T0) ?_
   refine .tk 10 (.agg #[.int .i64 5, .string ⟨#[]⟩, .string x.tg, .string x.an, .int .i64 0, .bool true]) wideF rfl (.inl ⟨rfl, fun w _ => by go_simp⟩) (fun _ => T0) ?_
   refine AnyS.one (i := 11) (by kernel_rfl) rfl rfl (fun K hK => ?_)
   go_simp
   refine hK _ _ (fun _ => T1) ?_
   clear hK K
   show AnyS _ _ _ _ _ _ 4 _ ⟨#[_,_,_,_,_,_,_,_,_,_,_,_,_,_,_,_,_,_,_,_,_,_,_,_,_,_,_,_,_,_,_,_,_,_,_,_,_,_,_,_,_,_,_], []⟩ (V0.alloc (.cells #[.int .i64 5, .string ⟨#[]⟩, .string x.tg, .string x.an, .int .i64 0, .bool true] 50)).drew
   refine AnyS.one (i := 12) (by kernel_rfl) rfl rfl (fun K hK => ?_)
   refine opIn_append_run _ _ 27 rfl rfl rfl hr ?_
   refine hK _ _ (fun _ => T2) ?_
   clear hK K
   show AnyS _ _ _ _ _ _ 3 _ ⟨#[_,_,_,_,_,_,_,_,_,_,_,_,_,_,_,_,_,_,_,_,_,_,_,_,_,_,_,_,_,_,_,_,_,_,_,_,_,_,_,_,_,_,_], []⟩ w1
   refine .tk 13 (.pointer (some ⟨wb, 0, none⟩)) wideF rfl (.inl ⟨rfl, fun w _ => by go_simp⟩) (fun _ => T2) ?_
   refine .tk 14 (.pointer (some ⟨wb, 7, none⟩)) wideF rfl (.inl ⟨rfl, fun w _ => by go_simp⟩) (fun _ => T2) ?_
   refine AnyS.one (i := 15) (by kernel_rfl) rfl rfl (fun K hK => ?_)
   go_simp
   refine hK _ _ (fun h => by cases h) ?_
   clear hK K
   show AnyS _ _ _ _ _ _ 0 _ ⟨#[_,_,_,_,_,_,_,_,_,_,_,_,_,_,_,_,_,_,_,_,_,_,_,_,_,_,_,_,_,_,_,_,_,_,_,_,_,_,_,_,_,_,_], []⟩ W3
   refine AnyS.done (by kernel_rfl) ?_
   rename_i Kb hKb
   refine hKb _ _ ?_
   clear hKb T0 T1 T2 hr f7 g7
   gi_wp2
   first | refine tr2 ?_ | refine tr1 ?_
   gi_at_call 112
   refine (PU _).mono ?_
   clear PU
   rintro en V4 ⟨⟨v, rfl⟩, hk4, ov4, hw4⟩
   have d5 := hw4.cell 5
   have i5 := hw4.frozen 5
   simp at d5
   have HF := hw4.setK (s.p.k + 1)
   have HF2 := hw4.kee 5 (.int .i64 ((s.p.k + 1 : Nat) : Int))
   rw [show ((s.p.k + 1 : Nat) : Int) = (s.p.k : Int) + 1 by omega] at HF HF2
   have HF3 : Hid _ := HF
   have HF4 : Hid _ := HF2
   clear HF HF2 hw4
   gi_wp2
   go_ret
   exact ⟨((kV.trans HKK.out).trans hk4).trans HF4.out, rfl, ov4, (.slice (some ⟨g, 0, none⟩) (s.to.length + 1) cap), HF3.out⟩
  ·obtain rfl : c = 91 := hc.resolve_right h123
   obtain ⟨g, cap, w1, hr, hgn, hov, f7, g7, kk, hk⟩ := told_push hW (by have := hs.to; omega) ⟨3, ⟨#[]⟩, x.tg, x.an, 0, true⟩
   have hvb : w.heap.size < V0.heap.size := bhV.lt
   have T0 : Tw V0 wb w.heap.size V0.drew := ⟨rfl, rfl⟩
   have T1 : Tw V0 wb w.heap.size ((V0.alloc (.cells #[.int .i64 3, .string ⟨#[]⟩, .string x.tg, .string x.an, .int .i64 0, .bool true] 50)).drew) := ⟨Below.heap_alloc _ _ _ hW.lt, Below.heap_alloc _ _ _ hvb⟩
   have T2 : Tw V0 wb w.heap.size w1 := ⟨hgn wb hW.lt (fun e => by have := (hov _ e.symm).1; omega), hgn w.heap.size hvb (fun e => by
    obtain ⟨-, -, cur, a1⟩ := hov _ e.symm
    rw [show V0.heap[w.heap.size]? = _ from bhV] at a1
    cases a1)⟩
   obtain ⟨W3, hW3⟩ : ∃ W3, w1.setCell ⟨wb, 7, none⟩ (.slice (some ⟨g, 0, none⟩) (s.to.length + 1) cap) = W3 := ⟨_, rfl⟩
   rw [hW3] at hk kk
   have PU := fun m => (callsIn_wide (n := m)).2 (push_any hk (by have := hs.op; show s.op.length <= _; omega) ⟨93, false, 0, 0, 0, 0, 0⟩)
   have HKK : Hid _ := kk
   clear hgn hov kk hk
   gi_wp2
   refine region_pickS (Til 15 (Tw V0 wb w.heap.size)) (by kernel_rfl) ?_
   show AnyS _ _ _ _ _ _ 16 _ ⟨#[_,_,_,_,_,_,_,_,_,_,_,_,_,_,_,_,_,_,_,_,_,_,_,_,_,_,_,_,_,_,_,_,_,_,_,_,_,_,_,_,_,_,_], []⟩ V0.drew
   refine .tk 0 (.pointer (some ⟨wb, 0, none⟩)) wideF rfl (.inl ⟨rfl, fun w _ => by go_simp⟩) (fun _ => T0) ?_
   refine .tk 1 (.pointer (some ⟨wb, 0, none⟩)) wideF rfl (.inl ⟨rfl, fun w _ => by go_simp⟩) (fun _ => T0) ?_
   refine .tk 2 (.pointer (some ⟨wb, 0, none⟩)) wideF rfl (.inl ⟨rfl, fun w _ => by go_simp⟩) (fun _ => T0) ?_
   refine .tk 3 (.pointer (some ⟨wb, 7, none⟩)) wideF rfl (.inl ⟨rfl, fun w _ => by go_simp⟩) (fun _ => T0) ?_
   refine .tk 4 tv wideF rfl (til_tells (s := 15) [12, 15] (by kernel_rfl) rfl rfl (fun w hw => by have a1 := hw.cell c7; go_simp)) (fun _ => T0) ?_
   refine .tk 5 (.int .i64 3) wideF rfl (.inl ⟨rfl, fun w _ => by go_simp⟩) (fun _ => T0) ?_
   show AnyS _ _ _ _ _ _ 10 _ ⟨#[_,_,_,_,_,_,_,_,_,_,_,_,_,_,_,_,_,_,_,_,_,_,_,_,_,_,_,_,_,_,_,_,_,_,_,_,_,_,_,_,_,_,_], []⟩ _
   refine .tk 6 (.pointer (some ⟨w.heap.size, 1, none⟩)) wideF rfl (.inl ⟨rfl, fun w _ => by go_simp⟩) (fun _ => T0) ?_
   refine .tk 7 (.string x.tg) wideF rfl (til_tells (s := 15) [10, 11, 12, 15] (by kernel_rfl) rfl rfl (fun w hw => by have a1 := hw.box x1; go_simp)) (fun _ => T0) ?_
   refine .tk 8 (.pointer (some ⟨w.heap.size, 0, none⟩)) wideF rfl (.inl ⟨rfl, fun w _ => by go_simp⟩) (fun _ => T0) ?_
   refine .tk 9 (.string x.an) wideF rfl (til_tells (s := 15) [10, 11, 12, 15] (by kernel_rfl) rfl rfl (fun w hw => by have a1 := hw.box x0; go_simp)) (fun _ => T0) ?_
   refine .tk 10 (.agg #[.int .i64 3, .string ⟨#[]⟩, .string x.tg, .string x.an, .int .i64 0, .bool true]) wideF rfl (.inl ⟨rfl, fun w _ => by go_simp⟩) (fun _ => T0) ?_
   refine AnyS.one (i := 11) (by kernel_rfl) rfl rfl (fun K hK => ?_)
   go_simp
   refine hK _ _ (fun _ => T1) ?_
   clear hK K
   show AnyS _ _ _ _ _ _ 4 _ ⟨#[_,_,_,_,_,_,_,_,_,_,_,_,_,_,_,_,_,_,_,_,_,_,_,_,_,_,_,_,_,_,_,_,_,_,_,_,_,_,_,_,_,_,_], []⟩ (V0.alloc (.cells #[.int .i64 3, .string ⟨#[]⟩, .string x.tg, .string x.an, .int .i64 0, .bool true] 50)).drew
   refine AnyS.one (i := 12) (by kernel_rfl) rfl rfl (fun K hK => ?_)
   refine opIn_append_run _ _ 27 rfl rfl rfl hr ?_
   refine hK _ _ (fun _ => T2) ?_
   clear hK K
   show AnyS _ _ _ _ _ _ 3 _ ⟨#[_,_,_,_,_,_,_,_,_,_,_,_,_,_,_,_,_,_,_,_,_,_,_,_,_,_,_,_,_,_,_,_,_,_,_,_,_,_,_,_,_,_,_], []⟩ w1
   refine .tk 13 (.pointer (some ⟨wb, 0, none⟩)) wideF rfl (.inl ⟨rfl, fun w _ => by go_simp⟩) (fun _ => T2) ?_
   refine .tk 14 (.pointer (some ⟨wb, 7, none⟩)) wideF rfl (.inl ⟨rfl, fun w _ => by go_simp⟩) (fun _ => T2) ?_
   refine AnyS.one (i := 15) (by kernel_rfl) rfl rfl (fun K hK => ?_)
   go_simp
   refine hK _ _ (fun h => by cases h) ?_
   clear hK K
   show AnyS _ _ _ _ _ _ 0 _ ⟨#[_,_,_,_,_,_,_,_,_,_,_,_,_,_,_,_,_,_,_,_,_,_,_,_,_,_,_,_,_,_,_,_,_,_,_,_,_,_,_,_,_,_,_], []⟩ W3
   refine AnyS.done (by kernel_rfl) ?_
   rename_i Kb hKb
   refine hKb _ _ ?_
   clear hKb T0 T1 T2 hr f7 g7
   gi_wp2
   first | refine tr2 ?_ | refine tr1 ?_
   gi_at_call 112
   refine (PU _).mono ?_
   clear PU
   rintro en V4 ⟨⟨v, rfl⟩, hk4, ov4, hw4⟩
   have d5 := hw4.cell 5
   have i5 := hw4.frozen 5
   simp at d5
   have HF := hw4.setK (s.p.k + 1)
   have HF2 := hw4.kee 5 (.int .i64 ((s.p.k + 1 : Nat) : Int))
   rw [show ((s.p.k + 1 : Nat) : Int) = (s.p.k : Int) + 1 by omega] at HF HF2
   have HF3 : Hid _ := HF
   have HF4 : Hid _ := HF2
   clear HF HF2 hw4
   gi_wp2
   go_ret
   exact ⟨((kV.trans HKK.out).trans hk4).trans HF4.out, rfl, ov4, (.slice (some ⟨g, 0, none⟩) (s.to.length + 1) cap), HF3.out⟩
end Go.Proofs.YtipbhdhiklmieaaGreatDoor
