/- Each operation that makes or turns memory does in the world what it does in the run. -/
import Derived.Test.YteeanpfhngoobaaGreatZXlp3
import Derived.Laws.IdiomStrings
set_option linter.all false
namespace Go.Proofs.YteeanpfhngoobaaGreat.Xk
open Go.RowKit

section
variable {m : Nat → MB} {tm : List Value} {a : Act} {P : Program} {h h1 : HP} {w w0 : World} {B : Nat} {o : Oper} {v : Value}
/-- What is told of one operation. -/
def Does (P : Program) (B : Nat) (w0 : World) (m : Nat → MB) (h h1 : HP) (v : Value) (s : Sem Next) (w : World) : Prop :=
  ∃ m' w1, Ext m m' h.nb ∧ h.nb ≤ h1.nb ∧ okT m' h1.nb v ∧ WR B w0 m' h1 w1 ∧ (s.run P w = .ok (.value (cT m' v)) w1 ∨ (v = undef ∧ s.run P w = .ok .skip w1))
theorem ok_new {m' : Nat → MB} {cs : List Value} {es : Nat} : okT m' (h.push ⟨cs, es, true⟩).nb (.pointer (some ⟨h.nb, 0, none⟩)) := ⟨rfl, by show h.nb < h.nb + 1; omega⟩
theorem cells_isCell {v u : Value} {cs : List Value} (hc : cellsOf v = some cs) (hk : okT m h.nb v) (hall : ∀ u ∈ cs, isCell u = true) (hu : u ∈ cs) : okC m h.nb u ∧ isCell u = true := by
  have := cellsOf_cells hc
  exact ⟨cells_ok hk (by rw [hc]; rfl) (by rw [this]; exact hu), hall u hu⟩
theorem alloc_does {e : TypeId} {inf : TypeInfo} {z : Value} {cs : List Value} (hw : WR B w0 m h w) (hi : P.info? e = some inf) (hz : inf.zero = some z) (hc : cellsOf z = some cs) (hall : cs.all flat0 = true) (ho : o.op = .alloc e) :
    Does P B w0 m h (h.push ⟨cs, 1, true⟩) (.pointer (some ⟨h.nb, 0, none⟩)) (execOp a.eval o) w := by
  simp only [List.all_eq_true] at hall
  have e1 := cellsOf_cells hc
  obtain ⟨h2, h3⟩ := hw.alloc (cells := cs) (es := 1) (cs := z.cells) e (by decide) (fun v hv => ⟨(cv_flat0 (hall v hv)).2.1, (cv_flat0 (m := m) (nb := h.nb) (hall v hv)).2.2⟩) (by rw [← e1]; simp) (fun i v hv => by
    rw [← e1, Array.getElem?_toList] at hv
    rw [hv, (cv_flat0 (nb := h.nb) (hall v (by rw [← e1]; exact Array.mem_toList_iff.2 (Array.mem_of_getElem? hv)))).1])
  refine ⟨_, _, h2, by show h.nb ≤ h.nb + 1; omega, ok_new, h3, .inl ?_⟩
  rw [cT_ptr]
  simp only [ca, upd_same]
  simp [execOp, ho, Instr.alloc, zeroValue, typeInfo, hi, hz, newVar, newRow, Result.andThen]
theorem box_does {e : TypeId} {x : Operand} {u : Value} {cs : List Value} (hw : WR B w0 m h w) (hf : FR m h.nb tm a) (hx : evl tm x = some u) (hc : cellsOf u = some cs) (hall : cs.all isCell = true) (ho : o.op = .box e x) :
    Does P B w0 m h (h.push ⟨cs, 1, true⟩) (.pointer (some ⟨h.nb, 0, none⟩)) (execOp a.eval o) w := by
  simp only [List.all_eq_true] at hall
  have e1 := cellsOf_cells hc
  obtain ⟨ex, kx⟩ := evl_eval hf hx
  have e2 := cells_map (m := m) (v := u) (by rw [hc]; rfl)
  obtain ⟨h2, h3⟩ := hw.alloc (cells := cs) (es := 1) (cs := (cT m u).cells) e (by decide) (fun v hv => cells_isCell hc kx hall hv) (by rw [e2, ← e1]; simp) (fun i v hv => by
    rw [← e1, Array.getElem?_toList] at hv
    rw [e2, Array.getElem?_map, hv]
    rfl)
  refine ⟨_, _, h2, by show h.nb ≤ h.nb + 1; omega, ok_new, h3, .inl ?_⟩
  rw [cT_ptr]
  simp only [ca, upd_same]
  simp [execOp, ho, ex, Instr.box, newVar, newRow, Result.andThen]
theorem store_does {t : TypeId} {x y : Operand} {inf : TypeInfo} {b off : Nat} {u : Value} {cs : List Value} (hw : WR B w0 m h w) (hf : FR m h.nb tm a) (hi : P.info? t = some inf) (hx : evl tm x = some (.pointer (some ⟨b, off, none⟩))) (hy : evl tm y = some u)
    (hc : cellsOf u = some cs) (hall : cs.all isCell = true) (hl : cs.length = inf.size) (hwr : h.write b off cs = some h1) (ho : o.op = .store t x y) : Does P B w0 m h h1 undef (execOp a.eval o) w := by
  simp only [List.all_eq_true] at hall
  have e1 := cellsOf_cells hc
  obtain ⟨ex, -⟩ := evl_eval hf hx
  obtain ⟨ey, ky⟩ := evl_eval hf hy
  rw [cT_ptr] at ex
  have e2 := cells_map (m := m) (v := u) (by rw [hc]; rfl)
  obtain ⟨q1, q2, q3⟩ := hw.write hwr (fun v hv => cells_isCell hc ky hall hv)
  have e3 : (cT m u).cells.toList = cs.map (cv m) := by rw [e2, Array.toList_map, e1]
  have hst := run_storeCells_cells (P := P) (m b).blk ((m b).sh + off) (cs.map (cv m)) 0 w (fun j hj => by simpa using (q2 j (by simpa using hj)).1) (fun j hj => by simpa using (q2 j (by simpa using hj)).2) (fun v hv => by
    obtain ⟨u, hu, rfl⟩ := List.mem_map.1 hv
    exact (isCell_cv (hall u hu)).2.1)
  have e4 : (cT m u).cells.size = inf.size := by rw [← hl, ← e1, e2]; simp
  refine ⟨m, _, Ext.refl, by omega, fun v hv => by simp [undef] at hv, q3, .inr ⟨rfl, ?_⟩⟩
  rw [Nat.add_zero] at hst
  simp [execOp, ho, ex, ey, Instr.storeAt, Instr.sureAddr, storeVar, sizeOf, typeInfo, hi, e4, e3, ca, hst, Result.andThen]
end
end Go.Proofs.YteeanpfhngoobaaGreat.Xk
namespace Go.Proofs.YteeanpfhngoobaaGreat.Xk
open Go.RowKit

section
variable {m : Nat → MB} {tm : List Value} {a : Act} {P : Program} {h h1 : HP} {w w0 : World} {B : Nat} {o : Oper} {v : Value}
theorem room_new {m' : Nat → MB} {k g n c es : Nat} (e : m' k = ⟨g, 0, n * es, es⟩) (hes : 0 < es) : cT m' (.slice (some ⟨k, 0, none⟩) c c) = .slice (some ⟨g, 0, none⟩) c n := by
  rw [cT_sl]
  unfold cs0 room ca
  rw [e]
  dsimp only
  rw [Nat.add_zero, Nat.sub_zero, Nat.mul_div_cancel _ hes]
theorem okT_slice {m' : Nat → MB} {k g n c es nb : Nat} (e : m' k = ⟨g, 0, n * es, es⟩) (hes : 0 < es) (hk : k < nb) (hc : c ≤ n) : okT m' nb (.slice (some ⟨k, 0, none⟩) c c) := by
  refine ⟨hk, by rw [e]; exact hes, Nat.le_refl _, ?_⟩
  show (m' k).sh + 0 + c * (m' k).es ≤ (m' k).sz
  rw [e]
  have := Nat.mul_le_mul_right es hc
  simpa using this
theorem buildSlice_does {t e : TypeId} {len : Nat} {ps : Array (Nat × Operand)} {vs : List (Nat × Value)} {inf : TypeInfo} {z : Value} {cs : Array Value} (hw : WR B w0 m h w) (hf : FR m h.nb tm a) (ht : P.underlying t = some (.slice e)) (hp : evps tm ps.toList = some vs)
    (hi : P.info? e = some inf) (hz : inf.zero = some z) (h0 : 0 < len * inf.size) (h24 : len * inf.size ≤ 16777216) (hzs : z.cells.size = inf.size) (hz0 : z.cells.toList.all flat0 = true)
    (hfl : Instr.fill (fun i => some (i * inf.size, inf.size)) ((Array.range (len * inf.size)).map (z.cells[· % z.cells.size]!)) vs = some cs) (hall : cs.toList.all isCell = true) (hcs : cs.size = len * inf.size) (ho : o.op = .buildSlice t len ps) :
    Does P B w0 m h (h.push ⟨cs.toList, inf.size, true⟩) (.slice (some ⟨h.nb, 0, none⟩) len len) (execOp a.eval o) w := by
  simp only [List.all_eq_true] at hall hz0
  have hpos : 0 < inf.size := Nat.pos_of_mul_pos_left h0
  obtain ⟨e1, e2⟩ := evps_ok hf _ _ hp
  have hz1 : ((Array.range (len * inf.size)).map (z.cells[· % z.cells.size]!)).map (cv m) = (Array.range (len * inf.size)).map (z.cells[· % z.cells.size]!) := by
    rw [Array.map_map]
    refine Array.map_congr_left fun i _ => ?_
    have hlt : i % z.cells.size < z.cells.size := Nat.mod_lt _ (by omega)
    show cv m (z.cells[i % z.cells.size]!) = _
    rw [getElem!_pos z.cells _ hlt]
    exact (cv_flat0 (nb := 0) (hz0 _ (by simp))).1
  have hfl2 := fill_map (cv m) (cT m) _ vs _ cs (fun p hp' => cells_map (e2 p hp').2) hfl
  rw [hz1] at hfl2
  have hmem : ∀ v ∈ cs.toList, okC m h.nb v := fun v hv => by
    rcases fill_mem _ _ _ _ hfl v hv with h1 | ⟨p, hp', h1⟩
    · rw [Array.toList_map] at h1
      obtain ⟨i, hi', rfl⟩ := List.mem_map.1 h1
      have hlt : i % z.cells.size < z.cells.size := Nat.mod_lt _ (by omega)
      rw [getElem!_pos z.cells _ hlt]
      exact (cv_flat0 (m := m) (nb := h.nb) (hz0 _ (by simp))).2.1
    · exact cells_ok (e2 p hp').1 (e2 p hp').2 h1
  obtain ⟨h2, h3⟩ := hw.alloc (cells := cs.toList) (es := inf.size) (cs := cs.map (cv m)) e (by omega) (fun v hv => ⟨hmem v hv, hall v hv⟩) (by simp) (fun i v hv => by
    rw [Array.getElem?_toList] at hv
    rw [Array.getElem?_map, hv]
    rfl)
  have hm : upd m h.nb ⟨w.heap.size, 0, (cs.map (cv m)).size, inf.size⟩ h.nb = ⟨w.heap.size, 0, len * inf.size, inf.size⟩ := by rw [upd_same, Array.size_map, hcs]
  refine ⟨_, _, h2, by show h.nb ≤ h.nb + 1; omega, okT_slice hm hpos (by show h.nb < h.nb + 1; omega) (Nat.le_refl _), h3, .inl ?_⟩
  rw [room_new hm hpos]
  have e3 : (ps.map fun p => (p.1, a.eval p.2)).toList = vs.map fun p => (p.1, cT m p.2) := by rw [Array.toList_map]; exact e1
  have h24' : ¬ (16777216 < len * inf.size) := by omega
  have hn0 : ¬ (len * inf.size = 0) := by omega
  have hl0 : ¬ len = 0 := fun e => by rw [e] at h0; simp at h0
  have hs0 : ¬ inf.size = 0 := by omega
  have e3' : (ps.map fun p => (p.1, a.eval p.2)).toList = vs.map fun p => (p.1, cT m p.2) := e3
  unfold execOp
  rw [ho]
  dsimp only
  unfold Instr.buildSlice
  simp only [Sem.run_bind, run_underlying ht, Result.andThen]
  have hsz : (sizeOf e).run P w = .ok inf.size w := by simp [sizeOf, typeInfo, hi]
  have hzv : (zeroValue e).run P w = .ok z w := by simp [zeroValue, typeInfo, hi, hz]
  rw [hsz]
  dsimp only
  rw [show (ps.map fun (x : Nat × Operand) => match x with | (i, x) => (i, a.eval x)).toList = vs.map fun p => (p.1, cT m p.2) from e3]
  simp [hn0, h24', hl0, hs0, hzv, hfl2, newRow, Result.andThen]
theorem toBytes_does {src dst e : TypeId} {x : Operand} {s : ByteArray} (hw : WR B w0 m h w) (hf : FR m h.nb tm a) (hs : P.underlying src = some .string) (hd : P.underlying dst = some (.slice e)) (he : P.underlying e = some (.int .u8)) (hx : evl tm x = some (.string s)) (ho : o.op = .convert src dst x) :
    Does P B w0 m h (h.push ⟨s.data.toList.map fun b => .int .u8 b.toNat, 1, true⟩) (.slice (some ⟨h.nb, 0, none⟩) s.size s.size) (execOp a.eval o) w := by
  obtain ⟨ex, -⟩ := evl_eval hf hx
  rw [cT_str] at ex
  have hr := run_bytes_of_string (P := P) w src dst e s hs hd he
  have hge := grownCap_ge w s.size 0 e
  generalize hc : grownCap w s.size 0 e = cap at hr hge
  have hsz : (bytesRow s cap).size = cap := by
    have : s.data.size = s.size := rfl
    simp [bytesRow, this]; omega
  have hat : (w.drew.alloc (.cells (bytesRow s cap) e ((bytesRow s cap).size, (bytesRow s cap).size + 1))).heap[w.heap.size]? = some (.cells (bytesRow s cap) e ((bytesRow s cap).size, (bytesRow s cap).size + 1)) := by
    show (w.heap.push _)[w.heap.size]? = _
    simp
  obtain ⟨h2, h3⟩ := hw.new (cells := s.data.toList.map fun b => .int .u8 b.toNat) (n := cap) (es := 1) (w' := w.drew.alloc (.cells (bytesRow s cap) e ((bytesRow s cap).size, (bytesRow s cap).size + 1))) (by decide)
    (fun v hv => by obtain ⟨b, -, rfl⟩ := List.mem_map.1 hv; exact ⟨trivial, rfl⟩) (by have : s.data.size = s.size := rfl; simp [this]; omega)
    (fun i v hv => by
      unfold World.cell?
      rw [hat]
      show (bytesRow s cap)[i]? = _
      have hlt := (List.getElem?_eq_some_iff.1 hv).1
      rw [List.length_map] at hlt
      unfold bytesRow
      rw [Array.getElem?_append_left (by simpa using hlt)]
      rw [← Array.toList_map, Array.getElem?_toList] at hv
      rw [hv]
      have hmem := List.mem_of_getElem? ((Array.getElem?_toList ..).trans hv)
      rw [Array.toList_map] at hmem
      obtain ⟨b, -, rfl⟩ := List.mem_map.1 hmem
      rfl)
    (fun i hi => by
      unfold World.cell? World.frozen?
      rw [hat]
      dsimp only
      constructor
      · simp [hsz, hi]
      · rw [hsz]; simp; omega)
    (fun a ha => by
      have hlt : (w.drew.alloc (.cells (bytesRow s cap) e ((bytesRow s cap).size, (bytesRow s cap).size + 1))).heap[a.block]? = w.heap[a.block]? := Below.heap_alloc w.drew _ _ ha
      exact ⟨World.cell?_of_block hlt, World.frozen?_of_block hlt⟩)
    ((Below.refl _ w).drew.alloc (Nat.le_refl _) _) (by simp)
  have hm : upd m h.nb ⟨w.heap.size, 0, cap, 1⟩ h.nb = ⟨w.heap.size, 0, cap * 1, 1⟩ := by rw [upd_same, Nat.mul_one]
  refine ⟨_, _, h2, by show h.nb ≤ h.nb + 1; omega, okT_slice hm (by omega) (by show h.nb < h.nb + 1; omega) hge, h3, .inl ?_⟩
  rw [room_new hm (by omega)]
  simp only [execOp, ho, ex, Sem.run_bind, hr, Result.andThen, Sem.run_pure]
theorem u8s_spec : ∀ {l : List Value} {ns : List Int}, u8s l = some ns → l = ns.map (Value.int .u8)
  | [], ns, hu => by simp only [u8s, Option.some.injEq] at hu; subst hu; rfl
  | v :: l, ns, hu => by
    unfold u8s at hu
    split at hu
    · rename_i e
      cases e
    · rename_i n l' e
      split at hu
      · rename_i ns' hs
        cases hu
        cases e
        rw [List.map_cons, ← u8s_spec hs]
      · cases hu
    · cases hu
theorem toString_does {src dst e : TypeId} {x : Operand} {b off len cap : Nat} {cs : List Value} {s : ByteArray} (hw : WR B w0 m h w) (hf : FR m h.nb tm a) (hs : P.underlying src = some (.slice e)) (hd : P.underlying dst = some .string) (he : P.underlying e = some (.int .u8))
    (hx : evl tm x = some (.slice (some ⟨b, off, none⟩) len cap)) (hr : h.read b off len = some cs) (hb : bytesOf cs = some s) (ho : o.op = .convert src dst x) : Does P B w0 m h h (.string s) (execOp a.eval o) w := by
  obtain ⟨ex, -⟩ := evl_eval hf hx
  rw [cT_sl] at ex
  unfold cs0 at ex
  dsimp only at ex
  obtain ⟨r, hg, hl, hle, rfl⟩ := read_ok hr
  unfold bytesOf at hb
  split at hb
  · rename_i ns hn
    cases hb
    have e1 := u8s_spec hn
    have hlen := read_len hr
    have hld := run_loadCells_list (P := P) w (ca m b off) (ns.map (Value.int .u8)) (fun j v hj => by
      rw [← e1] at hj
      have hlt := (List.getElem?_eq_some_iff.1 hj).1
      rw [hlen] at hlt
      rw [List.getElem?_take_of_lt hlt, List.getElem?_drop] at hj
      have := hw.at_ b r hg hl (off + j) v hj
      have hv : cv m v = v := by
        have hmem : v ∈ ns.map (Value.int .u8) := by
          rw [← e1]
          exact List.mem_of_mem_drop (l := r.cells) (i := 0) (by simpa using List.mem_of_getElem? hj) |> fun _ => by
            have : ((r.cells.drop off).take len)[j]? = some v := by rw [List.getElem?_take_of_lt hlt, List.getElem?_drop]; exact hj
            exact List.mem_of_getElem? this
        obtain ⟨n, -, rfl⟩ := List.mem_map.1 hmem
        rfl
      unfold ca
      rw [Addr.add_lit, Nat.add_assoc, this, hv])
    rw [← e1, hlen, e1] at hld
    have hrun := run_bytesToString (P := P) w (ca m b off) len (room (m b) off) ns (by simpa using hld)
    refine ⟨m, w, Ext.refl, Nat.le_refl _, trivial, hw, .inl ?_⟩
    simp only [execOp, ho, ex, Sem.run_bind, run_convert_bytes_string w src dst e (some (ca m b off)) len (room (m b) off) hs he hd, hrun, Result.andThen, Sem.run_pure, cT_str]
  · cases hb
end
end Go.Proofs.YteeanpfhngoobaaGreat.Xk
namespace Go.Proofs.YteeanpfhngoobaaGreat.Xk
open Go.RowKit

section
variable {m : Nat → MB} {tm : List Value} {a : Act} {P : Program} {h h1 : HP} {w w0 w1 : World} {B : Nat} {o : Oper} {v : Value}
theorem app_room {t u e e' ty : TypeId} {i : TypeInfo} {b : Addr} {len cap n : Nat} {x : Value} {news : List Value} (ht : P.underlying t = some (.slice e)) (hu : P.underlying u = some (.slice e')) (hi : P.info? e = some i)
    (hl : (Builtin.lenOf x).run P w = .ok n w) (hx : (Builtin.firstCells i.size n x).run P w = .ok news.toArray w) (hr : len + n ≤ cap) (hst : (storeCells (b.add (len * i.size)) news).run P w = .ok () w1) :
    (Builtin.append_ #[t, u] ty #[.slice (some b) len cap, x]).run P w = .ok (.slice (some b) (len + n) cap) w1 := by
  simp [Builtin.append_, run_underlying ht, run_underlying hu, sizeOf, typeInfo, hi, hl, hr, hx, hst, Result.andThen]
theorem app_zero {t u e e' ty : TypeId} {i : TypeInfo} {x : Value} {news : List Value} (ht : P.underlying t = some (.slice e)) (hu : P.underlying u = some (.slice e')) (hi : P.info? e = some i)
    (hl : (Builtin.lenOf x).run P w = .ok 0 w) (hx : (Builtin.firstCells i.size 0 x).run P w = .ok news.toArray w) :
    (Builtin.append_ #[t, u] ty #[.slice none 0 0, x]).run P w = .ok (.slice none 0 0) w := by
  simp [Builtin.append_, run_underlying ht, run_underlying hu, sizeOf, typeInfo, hi, hl, hx, Result.andThen]
theorem app_grow {t u e e' ty : TypeId} {i : TypeInfo} {z : Value} {p : Option Addr} {len cap n : Nat} {x : Value} {olds news : List Value} (ht : P.underlying t = some (.slice e)) (hu : P.underlying u = some (.slice e')) (hi : P.info? e = some i) (hz : i.zero = some z)
    (hl : (Builtin.lenOf x).run P w = .ok n w) (ho : (Builtin.firstCells i.size len (.slice p len cap)).run P w.drew = .ok olds.toArray w.drew) (hx : (Builtin.firstCells i.size n x).run P w.drew = .ok news.toArray w.drew)
    (hr : cap < len + n) (hn : len + n ≤ 5864062014805) (hb : (len + n) * i.bytes ≤ 140737488355328) :
    (Builtin.append_ #[t, u] ty #[.slice p len cap, x]).run P w = .ok (.slice (some ⟨w.heap.size, 0, none⟩) (len + n) (grownCap w (len + n) cap e))
      (w.drew.alloc (.cells (olds.toArray ++ news.toArray ++ Builtin.zeroCells z.cells (grownCap w (len + n) cap e - (len + n))) e)) := by
  have hA : ∀ zc : Array Value, olds.toArray ++ (news.toArray ++ zc) = (olds ++ news).toArray ++ zc := fun zc => by
    apply Array.ext'
    simp [List.append_assoc]
  have hn' : ¬ (len + n ≤ cap) := by omega
  have h63' : ¬ (9223372036854775807 < ((len : Int) + (n : Int))) := by omega
  have h48 := growslice_fits (need := len + n) (old := cap) (bytes := i.bytes) (by omega) hb
  have h48' : ¬ (281474976710656 < Builtin.nextslicecap (len + n) cap * i.bytes) := by omega
  simp [Builtin.append_, run_underlying ht, run_underlying hu, sizeOf, typeInfo, zeroValue, hi, hz, hl, hn', h63', h48', Question.forced, ho, hx, newRow, grownCap, Result.andThen, hA]
  rfl
/-- What is appended, in the world. -/
theorem appended_ok {size n : Nat} {x : Value} {new : List Value} (hw : WR B w0 m h w) (hx : appended h size x = some (n, new)) (hk : okT m h.nb x) :
    (∀ W : World, (Builtin.lenOf (cT m x)).run P W = .ok n W) ∧ (∀ W : World, (∀ k : Nat, W.heap[k]? = w.heap[k]?) → (Builtin.firstCells size n (cT m x)).run P W = .ok (new.map (cv m)).toArray W) ∧ new.length = n * size ∧ ∀ v ∈ new, okC m h.nb v ∧ isCell v = true := by
  unfold appended at hx
  split at hx
  · cases hx
    obtain ⟨rfl, rfl⟩ : _ = 0 ∧ _ = 0 := hk
    exact ⟨fun W => rfl, fun W _ => rfl, by simp, by simp⟩
  · rename_i b off n' cap
    split at hx
    · rename_i cs hr
      cases hx
      obtain ⟨r, hg, hl, hle, e⟩ := read_ok hr
      refine ⟨fun W => rfl, fun W hW => ?_, read_len hr, fun v hv => read_mem hw.toHR hr hv⟩
      rw [cT_sl]
      show (loadCells (ca m b off) (n * size)).run P W = _
      have := run_loadCells_list (P := P) W (ca m b off) (new.map (cv m)) (fun j v hv => by
        rw [List.getElem?_map] at hv
        obtain ⟨u, hu, rfl⟩ := Option.map_eq_some_iff.1 hv
        have hlt := (List.getElem?_eq_some_iff.1 hu).1
        rw [read_len hr] at hlt
        rw [e, List.getElem?_take_of_lt hlt, List.getElem?_drop] at hu
        have h1 := hw.at_ b r hg hl (off + j) u hu
        unfold ca
        rw [Addr.add_lit, Nat.add_assoc, World.cell?_of_block (w := w) (hW _)]
        exact h1)
      rwa [List.length_map, read_len hr] at this
    · cases hx
  · rename_i b off d n' cap
    cases hx
    obtain ⟨k1, k2, k3, k4, k5⟩ : b < h.nb ∧ 0 < (m b).es ∧ n' ≤ cap ∧ cap = 0 ∧ (m b).sh + off + d * (m b).es ≤ (m b).sz := hk
    obtain rfl : n' = 0 := by omega
    rw [cT_sl]
    unfold cs0
    dsimp only
    split
    · exact ⟨fun W => rfl, fun W _ => by simp [Builtin.firstCells, loadCells, loadCellsFrom], by simp, by simp⟩
    · exact ⟨fun W => rfl, fun W _ => by simp [Builtin.firstCells, loadCells, loadCellsFrom], by simp, by simp⟩
  · cases hx
theorem zeroCells_size (z : Array Value) (n : Nat) : (Builtin.zeroCells z n).size = n * z.size := by simp [Builtin.zeroCells]
/-- A row that is made anew by append. -/
theorem grown_does {e : TypeId} {cells : List Value} {es need cap : Nat} {zs : Array Value} (hw : WR B w0 m h w) (hok : ∀ v ∈ cells, okC m h.nb v ∧ isCell v = true) (hlen : cells.length = need * es) (hzs : zs.size = (cap - need) * es) (hes : 0 < es) (hc : need ≤ cap) :
    ∃ m', Ext m m' h.nb ∧ m' h.nb = ⟨w.heap.size, 0, cap * es, es⟩ ∧ WR B w0 m' (h.push ⟨cells, es, true⟩) (w.drew.alloc (.cells ((cells.map (cv m)).toArray ++ zs) e)) := by
  have hsz : ((cells.map (cv m)).toArray ++ zs).size = cap * es := by
    simp only [Array.size_append, List.size_toArray, List.length_map, hlen, hzs, ← Nat.add_mul]
    congr 1
    omega
  obtain ⟨h2, h3⟩ := hw.drew.alloc (cells := cells) (es := es) (cs := (cells.map (cv m)).toArray ++ zs) e (by omega) hok (by rw [hsz, hlen]; exact Nat.mul_le_mul_right _ hc) (fun i v hv => by
    have hlt := (List.getElem?_eq_some_iff.1 hv).1
    rw [Array.getElem?_append_left (by simpa using hlt)]
    simp [hv])
  refine ⟨_, h2, ?_, h3⟩
  rw [upd_same, hsz]
  rfl
theorem app_does {t u e e' ty : TypeId} {s x v : Value} (hw : WR B w0 m h w) (ht : P.underlying t = some (.slice e)) (hu : P.underlying u = some (.slice e')) (hks : okT m h.nb s) (hkx : okT m h.nb x) (ha : app P h e s x = some (v, h1)) :
    ∃ m' w1, Ext m m' h.nb ∧ h.nb ≤ h1.nb ∧ okT m' h1.nb v ∧ WR B w0 m' h1 w1 ∧ (Builtin.append_ #[t, u] ty #[cT m s, cT m x]).run P w = .ok (cT m' v) w1 := by
  unfold app at ha
  split at ha
  · cases ha
  · rename_i inf hi
    split at ha
    · cases ha
    · rename_i z hz
      split at ha
      · cases ha
      · rename_i hc
        obtain ⟨hzs, hpos, hby⟩ : z.cells.size = inf.size ∧ 0 < inf.size ∧ inf.bytes ≤ 1024 := by simpa using hc
        split at ha
        · cases ha
        · rename_i n new hx
          obtain ⟨x1, x2, x3, x4⟩ := appended_ok (P := P) hw hx hkx
          split at ha
          · -- nil
            split at ha
            · rename_i h0
              cases ha
              subst h0
              exact ⟨m, w, Ext.refl, Nat.le_refl _, hks, hw, app_zero ht hu hi (x1 w) (x2 w fun _ => rfl)⟩
            · rename_i h0
              split at ha
              · rename_i hn
                cases ha
                have hg := app_grow (P := P) (ty := ty) (p := none) (len := 0) (cap := 0) (olds := []) ht hu hi hz (x1 w) rfl (x2 w.drew fun _ => rfl) (by omega) (by omega) (by rw [Nat.zero_add]; exact hn.2)
                have hge := grownCap_ge w (0 + n) 0 e
                simp only [Nat.zero_add] at hg hge
                obtain ⟨m', e1, e2, e3⟩ := grown_does (e := e) (zs := Builtin.zeroCells z.cells (grownCap w n 0 e - n)) hw x4 x3 (by rw [zeroCells_size, hzs]) hpos hge
                refine ⟨m', _, e1, by show h.nb ≤ h.nb + 1; omega, okT_slice e2 hpos (by show h.nb < h.nb + 1; omega) hge, e3, ?_⟩
                rw [room_new e2 hpos]
                rw [show cT m (.slice none 0 0) = .slice none 0 0 from rfl, hg]
                congr 2
                simp
              · cases ha
          · rename_i b off len cap
            split at ha
            · cases ha
            · rename_i r hg
              split at ha
              · cases ha
              · rename_i hc2
                obtain ⟨hl, hes, hmx, hby2⟩ : r.live = true ∧ r.es = inf.size ∧ len + n ≤ 5864062014805 ∧ (len + n) * inf.bytes ≤ 140737488355328 := by simpa using hc2
                obtain ⟨k1, k2, k3, k4⟩ : b < h.nb ∧ 0 < (m b).es ∧ len ≤ cap ∧ (m b).sh + off + cap * (m b).es ≤ (m b).sz := hks
                have hez : r.es ≠ 0 := by omega
                have hesm : (m b).es = inf.size := (hw.es b r hg hez).trans hes
                have hroom : cap ≤ room (m b) off := by
                  unfold room
                  rw [Nat.le_div_iff_mul_le k2]
                  omega
                have hroom2 : (m b).sh + off + room (m b) off * inf.size ≤ (m b).sz := by
                  have := Nat.div_mul_le_self ((m b).sz - ((m b).sh + off)) (m b).es
                  unfold room
                  rw [hesm] at this k4 ⊢
                  omega
                obtain ⟨q1, -, q2, q3⟩ := hw.lo b r hg hl
                have q1 := q1 hez
                rw [cT_sl]
                unfold cs0
                dsimp only
                split at ha
                · rename_i hin
                  split at ha
                  · rename_i h' hwr
                    cases ha
                    obtain ⟨p1, p2, p3⟩ := hw.write hwr x4
                    have hst := run_storeCells_cells (P := P) (m b).blk ((m b).sh + (off + len * inf.size)) (new.map (cv m)) 0 w (fun j hj => by simpa using (p2 j (by simpa using hj)).1) (fun j hj => by simpa using (p2 j (by simpa using hj)).2) (fun v hv => by
                      obtain ⟨u, hu, rfl⟩ := List.mem_map.1 hv
                      exact (isCell_cv (x4 u hu).2).2.1)
                    rw [Nat.add_zero] at hst
                    refine ⟨m, _, Ext.refl, by omega, ⟨by rw [p1]; exact k1, k2, by omega, k4⟩, p3, ?_⟩
                    rw [cT_sl]
                    unfold cs0
                    dsimp only
                    exact app_room ht hu hi (x1 w) (x2 w fun _ => rfl) (by omega) (by unfold ca; rw [Addr.add_lit, Nat.add_assoc]; exact hst)
                  · cases ha
                · rename_i hin
                  split at ha
                  · cases ha
                  · rename_i old hro
                    cases ha
                    have hlo := read_len hro
                    have hall : ∀ v ∈ old ++ new, okC m h.nb v ∧ isCell v = true := fun v hv => by
                      rcases List.mem_append.1 hv with hv | hv
                      · exact read_mem hw.toHR hro hv
                      · exact x4 v hv
                    have hln : (old ++ new).length = (len + n) * inf.size := by rw [List.length_append, hlo, x3, Nat.add_mul]
                    have hk := hw.kill hg (by omega)
                    by_cases hfit : len + n ≤ room (m b) off
                    · -- in place, in the world
                      have hth : ∀ j, j < new.length → (w.cell? ⟨(m b).blk, (m b).sh + (off + len * inf.size) + j, none⟩).isSome = true ∧ w.frozen? ⟨(m b).blk, (m b).sh + (off + len * inf.size) + j, none⟩ = false := fun j hj => by
                        have h1 : (len + n) * inf.size ≤ room (m b) off * inf.size := Nat.mul_le_mul_right _ hfit
                        rw [Nat.add_mul] at h1
                        exact hw.fr b r hg hl hez _ (by omega)
                      have hst := run_storeCells_cells (P := P) (m b).blk ((m b).sh + (off + len * inf.size)) (new.map (cv m)) 0 w (fun j hj => by simpa using (hth j (by simpa using hj)).1) (fun j hj => by simpa using (hth j (by simpa using hj)).2) (fun v hv => by
                        obtain ⟨u, hu, rfl⟩ := List.mem_map.1 hv
                        exact (isCell_cv (x4 u hu).2).2.1)
                      rw [Nat.add_zero] at hst
                      have hr2 := app_room (P := P) (ty := ty) (b := ca m b off) ht hu hi (x1 w) (x2 w fun _ => rfl) hfit (by unfold ca; rw [Addr.add_lit, Nat.add_assoc]; exact hst)
                      have hth' : ∀ j, j < (new.map (cv m)).length → (w.cell? ⟨(m b).blk, (m b).sh + (off + len * inf.size) + j, none⟩).isSome = true := fun j hj => (hth j (by simpa using hj)).1
                      obtain ⟨rr, hrg, -, hrle, hre⟩ := read_ok hro
                      rw [hg] at hrg
                      obtain rfl := (Option.some.inj hrg)
                      obtain ⟨e1, e2⟩ := hk.lay (cells := old ++ new) (x := ⟨(m b).blk, (m b).sh + off, (m b).sz, inf.size⟩) (w' := w.setCells (m b).blk ((m b).sh + (off + len * inf.size)) (new.map (cv m))) (by show inf.size ≠ 0; omega) hall
                        ⟨q1, by rw [size_setCells]; exact q2, by
                          dsimp only
                          have h1 : (len + n) * inf.size ≤ room (m b) off * inf.size := Nat.mul_le_mul_right _ hfit
                          rw [hln]; omega⟩
                        (fun i v hv => by
                          dsimp only
                          by_cases hi2 : i < len * inf.size
                          · rw [List.getElem?_append_left (by omega)] at hv
                            rw [World.cell?_setCells_out _ _ _ _ _ (fun _ _ => by dsimp only; omega)]
                            rw [hre, List.getElem?_take_of_lt hi2, List.getElem?_drop] at hv
                            rw [Nat.add_assoc]
                            exact hw.at_ b r hg hl (off + i) v hv
                          · rw [List.getElem?_append_right (by omega), hlo] at hv
                            have hlt := (List.getElem?_eq_some_iff.1 hv).1
                            have := World.cell?_setCells_in (m b).blk (new.map (cv m)) ((m b).sh + (off + len * inf.size)) w hth' (i - len * inf.size) (by simpa using hlt)
                            rw [show (m b).sh + (off + len * inf.size) + (i - len * inf.size) = (m b).sh + off + i by omega] at this
                            rw [this, List.getElem_map, (List.getElem?_eq_some_iff.1 hv).2])
                        (fun i hi2 => by
                          dsimp only at hi2 ⊢
                          obtain ⟨c1, c2⟩ := hw.fr b r hg hl hez i hi2
                          rw [World.frozen?_setCells]
                          exact ⟨cell_there _ _ _ _ hth' i c1, c2⟩)
                        (fun k s hgk hlk => by
                          have hkb : k ≠ b := fun e => by
                            subst e
                            rw [get_put_same hg] at hgk
                            cases hgk
                            cases hlk
                          rw [get_put_ne hg _ hkb] at hgk
                          have hne : (m k).blk ≠ (m b).blk := fun e => hkb (hw.sep hg hgk hl hlk hez e.symm).symm
                          exact ⟨hne, fun o => ⟨cell_out _ _ _ _ hne, World.frozen?_setCells ..⟩⟩)
                        (fun k s hgk hlk h0 => by
                          obtain ⟨-, E, c, q2', -⟩ := hk.mp k s hgk hlk h0
                          exact map_setCells hth' q2') (Below.setCells _ _ _ _ hw.bel q1) (by rw [size_setCells]; exact Nat.le_refl _)
                      refine ⟨_, _, e1, by show h.nb ≤ h.nb + 1; omega, ?_, e2, ?_⟩
                      · refine ⟨by show h.nb < h.nb + 1; omega, ?_, Nat.le_refl _, ?_⟩
                        · show 0 < (upd m h.nb _ h.nb).es
                          rw [upd_same]; exact hpos
                        · show (upd m h.nb _ h.nb).sh + 0 + (len + n) * (upd m h.nb _ h.nb).es ≤ (upd m h.nb _ h.nb).sz
                          rw [upd_same]
                          dsimp only
                          have h1 : (len + n) * inf.size ≤ room (m b) off * inf.size := Nat.mul_le_mul_right _ hfit
                          omega
                      · rw [hr2, cT_sl]
                        unfold cs0 ca room
                        show _ = Result.ok (Value.slice (some ⟨(upd m h.nb _ h.nb).blk, (upd m h.nb _ h.nb).sh + 0, none⟩) (len + n) (((upd m h.nb _ h.nb).sz - ((upd m h.nb _ h.nb).sh + 0)) / (upd m h.nb _ h.nb).es)) _
                        rw [upd_same]
                        dsimp only
                        rw [hesm, Nat.add_zero]
                    · -- a new row
                      have hof : (Builtin.firstCells inf.size len (.slice (some (ca m b off)) len (room (m b) off))).run P w.drew = .ok (old.map (cv m)).toArray w.drew := by
                        obtain ⟨o1, o2, -, -⟩ := appended_ok (P := P) (size := inf.size) (n := len) (x := .slice (some ⟨b, off, none⟩) len cap) (new := old) hw (by unfold appended; dsimp only; rw [hro]) ⟨k1, k2, k3, k4⟩
                        exact o2 w.drew fun _ => rfl
                      have hgr := app_grow (P := P) (ty := ty) (p := some (ca m b off)) (len := len) (cap := room (m b) off) ht hu hi hz (x1 w) hof (x2 w.drew fun _ => rfl) (by omega) hmx hby2
                      have hge := grownCap_ge w (len + n) (room (m b) off) e
                      obtain ⟨m', e1, e2, e3⟩ := grown_does (e := e) (zs := Builtin.zeroCells z.cells (grownCap w (len + n) (room (m b) off) e - (len + n))) hk hall hln (by rw [zeroCells_size, hzs]) hpos hge
                      refine ⟨m', _, e1, by show h.nb ≤ h.nb + 1; omega, okT_slice e2 hpos (by show h.nb < h.nb + 1; omega) hge, e3, ?_⟩
                      have e4 : cT m' (.slice (some ⟨h.nb, 0, none⟩) (len + n) (len + n)) = .slice (some ⟨w.heap.size, 0, none⟩) (len + n) (grownCap w (len + n) (room (m b) off) e) := room_new e2 hpos
                      rw [hgr, e4]
                      congr 3
                      rw [List.map_append]
                      simp
          · cases ha
end
end Go.Proofs.YteeanpfhngoobaaGreat.Xk
namespace Go.Proofs.YteeanpfhngoobaaGreat.Xk
open Go.RowKit

section
variable {m : Nat → MB} {tm : List Value} {a : Act} {P : Program} {h h1 : HP} {w w0 : World} {B : Nat} {o : Oper} {v : Value}
theorem evls_ok (hf : FR m h.nb tm a) : ∀ (l : List Operand) (vs : List Value), evls tm l = some vs → l.map a.eval = vs.map (cT m) ∧ ∀ v ∈ vs, okT m h.nb v
  | [], vs, he => by simp only [evls, Option.some.injEq] at he; subst he; exact ⟨rfl, by simp⟩
  | x :: l, vs, he => by
    simp only [evls] at he
    split at he
    · rename_i v us hv hus
      cases he
      obtain ⟨e, k⟩ := evl_eval hf hv
      obtain ⟨e2, k2⟩ := evls_ok hf l us hus
      exact ⟨by simp only [List.map_cons, e, e2], fun u hu => by
        rcases List.mem_cons.1 hu with rfl | hu
        · exact k
        · exact k2 u hu⟩
    · cases he
theorem isApp_spec {c : Call} {s x : Operand} {t u : TypeId} (hc : isApp c = some (s, x, t, u)) : c.callee = .builtin .append ∧ c.args = #[s, x] ∧ c.argTypes = #[t, u] := by
  unfold isApp at hc
  split at hc
  · rename_i h1 h2 h3
    simp only [Option.some.injEq, Prod.mk.injEq] at hc
    obtain ⟨rfl, rfl, rfl, rfl⟩ := hc
    exact ⟨h1, Array.ext' (by simpa using h2), Array.ext' (by simpa using h3)⟩
  · cases hc
theorem isFn_spec {v : Value} {k : Nat} (hv : isFn v = some k) : v = .func (.func k) #[] #[] := by
  unfold isFn at hv
  split at hv
  · rename_i k' f c
    split at hv
    · rename_i h0
      cases hv
      rw [Array.size_eq_zero_iff, Array.size_eq_zero_iff] at h0
      obtain ⟨rfl, rfl⟩ := h0
      rfl
    · cases hv
  · cases hv
/-- What is told of a call of a function. -/
def IsCall (a : Act) (m : Nat → MB) (o : Oper) (k : Nat) (vs : List Value) : Prop :=
  ∃ c f, o.op = .call c ∧ c.callee = .value f ∧ a.eval f = .func (.func k) #[] #[] ∧ c.args.map a.eval = (vs.map (cT m)).toArray
theorem hop_ok {call : Nat → List Value → HP → Option (Value × HP)} (hw : WR B w0 m h w) (hf : FR m h.nb tm a) (hh : hop P call tm h o = some (v, h1)) :
    Does P B w0 m h h1 v (execOp a.eval o) w ∨ ∃ k vs, call k vs h = some (v, h1) ∧ (∀ u ∈ vs, okT m h.nb u) ∧ IsCall a m o k vs := by
  unfold hop at hh
  split at hh
  · -- alloc
    rename_i e ho
    split at hh
    · rename_i inf hi
      split at hh
      · rename_i z hz
        split at hh
        · rename_i cs hc
          split at hh
          · rename_i hall
            cases hh
            exact .inl (alloc_does hw hi hz hc hall ho)
          · cases hh
        · cases hh
      · cases hh
    · cases hh
  · -- box
    rename_i e x ho
    split at hh
    · rename_i u hx
      split at hh
      · rename_i cs hc
        split at hh
        · rename_i hall
          cases hh
          exact .inl (box_does hw hf hx hc hall ho)
        · cases hh
      · cases hh
    · cases hh
  · -- store
    rename_i t x y ho
    split at hh
    · rename_i inf b off u hi hx hy
      split at hh
      · rename_i cs hc
        split at hh
        · rename_i hl
          split at hh
          · rename_i h' hwr
            cases hh
            exact .inl (store_does hw hf hi hx hy hc hl.2 hl.1 hwr ho)
          · cases hh
        · cases hh
      · cases hh
    · cases hh
  · -- buildSlice
    rename_i t len ps ho
    split at hh
    · rename_i e vs ht hp
      split at hh
      · rename_i inf hi
        split at hh
        · rename_i z hz
          split at hh
          · rename_i hc
            obtain ⟨h0, h24, hzs, hz0⟩ := hc
            split at hh
            · rename_i cs hfl
              split at hh
              · rename_i hc2
                cases hh
                exact .inl (buildSlice_does hw hf ht hp hi hz h0 h24 hzs hz0 hfl hc2.1 hc2.2 ho)
              · cases hh
            · cases hh
          · cases hh
        · cases hh
      · cases hh
    · cases hh
  · -- convert
    rename_i src dst x ho
    split at hh
    · rename_i e s hs hd hx
      split at hh
      · rename_i he
        cases hh
        exact .inl (toBytes_does hw hf hs hd he hx ho)
      · cases hh
    · rename_i e p len cap hs hd hx
      split at hh
      · rename_i he
        split at hh
        · cases hh
          obtain ⟨ex, kx⟩ := evl_eval hf hx
          refine .inl ⟨m, w, Ext.refl, Nat.le_refl _, trivial, hw, .inl ?_⟩
          obtain ⟨rfl, rfl⟩ : len = 0 ∧ cap = 0 := kx
          rw [show cT m (.slice none 0 0) = .slice none 0 0 from rfl] at ex
          simp [execOp, ho, ex, run_convert_bytes_string w src dst e none 0 0 hs he hd, Conv.bytesToString, Result.andThen, cT_str]
        · rename_i b off
          split at hh
          · rename_i cs hr
            split at hh
            · rename_i s hb
              cases hh
              exact .inl (toString_does hw hf hs hd he hx hr hb ho)
            · cases hh
          · cases hh
        · rename_i b off d
          cases hh
          obtain ⟨ex, kx⟩ := evl_eval hf hx
          obtain ⟨k1, k2, k3, k4, k5⟩ : b < h.nb ∧ 0 < (m b).es ∧ len ≤ cap ∧ cap = 0 ∧ (m b).sh + off + d * (m b).es ≤ (m b).sz := kx
          obtain rfl : len = 0 := by omega
          refine .inl ⟨m, w, Ext.refl, Nat.le_refl _, trivial, hw, .inl ?_⟩
          have hq : ∃ q c', cs0 m b off (some d) 0 = .slice (some q) 0 c' := by
            unfold cs0
            dsimp only
            split <;> exact ⟨_, _, rfl⟩
          obtain ⟨q, c', eq⟩ := hq
          rw [cT_sl, eq] at ex
          have hrun := run_bytesToString (P := P) w q 0 c' [] (by simp [loadCells, loadCellsFrom])
          simp [execOp, ho, ex, run_convert_bytes_string w src dst e (some q) 0 c' hs he hd, hrun, Result.andThen, cT_str]
      · cases hh
    · cases hh
  · -- call
    rename_i c ho
    split at hh
    · rename_i s x t u hc
      split at hh
      · rename_i e vs vx ht hs hx
        split at hh
        · rename_i e' hu
          obtain ⟨es, ks⟩ := evl_eval hf hs
          obtain ⟨ex, kx⟩ := evl_eval hf hx
          obtain ⟨m', w1, q1, q2, q3, q4, q5⟩ := app_does (ty := o.type) hw ht hu ks kx hh
          obtain ⟨c1, c2, c3⟩ := isApp_spec hc
          refine .inl ⟨m', w1, q1, q2, q3, q4, .inl ?_⟩
          simp [execOp, ho, resolve, c1, c2, c3, es, ex, invoke, builtin, q5, Result.andThen]
        · cases hh
      · cases hh
    · split at hh
      · rename_i f hf2
        split at hh
        · rename_i k vs hk hvs
          obtain ⟨e2, k2⟩ := evls_ok hf _ _ hvs
          refine .inr ⟨k, vs, hh, k2, c, f, ho, hf2, ?_, Array.ext' (by rw [Array.toList_map]; exact e2)⟩
          obtain ⟨u, hu, hk⟩ := Option.bind_eq_some_iff.1 hk
          rw [(evl_eval hf hu).1, isFn_spec hk]
          rfl
        · cases hh
      · cases hh
  · -- makeMap
    rename_i t r ho
    split at hh
    · rename_i hr
      cases hh
      obtain ⟨q1, q2⟩ := hw.mnew
      refine .inl ⟨_, _, q1, by show h.nb ≤ h.nb + 1; omega, show h.nb < h.nb + 1 by omega, q2, .inl ?_⟩
      obtain rfl : r = none := by simpa using hr
      have e : cT (upd m h.nb ⟨w.heap.size, 0, 0, 0⟩) (.map (some h.nb)) = .map (some w.heap.size) := by simp [cT, cA, cv, upd_same]
      rw [e]
      simp [execOp, ho, Instr.makeMap, newObj, Result.andThen]
      rfl
    · cases hh
  · -- lookup
    rename_i t x k ok ho
    split at hh
    · rename_i kt et p s ht hx hk
      split at hh
      · rename_i z es hkt hz hr
        split at hh
        · rename_i hsz
          obtain ⟨ex, -⟩ := evl_eval hf hx
          obtain ⟨ek, -⟩ := evl_eval hf hk
          rw [cT_str] at ek
          have hrun := lookup_run hw (ok := ok) (s := s) ht hkt hz hr
          split at hh
          · rename_i i u hm
            split at hh
            · rename_i hsu
              cases hh
              rw [hm] at hrun
              dsimp only at hrun
              refine .inl ⟨m, w, Ext.refl, Nat.le_refl _, ?_, hw, .inl ?_⟩
              · cases ok
                · exact (cT_scal hsu).2
                · intro v hv
                  simp at hv
                  rcases hv with rfl | rfl
                  · have := (cT_scal (m := m) (nb := h.nb) hsu).2
                    cases v <;> first | exact this | (simp [scal] at hsu)
                  · exact trivial
              · have e : cT m (if ok = true then Value.tuple #[u, .bool true] else u) = if ok = true then Value.tuple #[u, .bool true] else u := by
                  cases ok
                  · exact (cT_scal (nb := h.nb) hsu).1
                  · cases u <;> first | (simp [cT, cA, cv]; done) | (simp [scal] at hsu; done)
                rw [e]
                simp [execOp, ho, ex, ek, hrun, Result.andThen]
            · cases hh
          · rename_i hm
            cases hh
            rw [hm] at hrun
            dsimp only at hrun
            refine .inl ⟨m, w, Ext.refl, Nat.le_refl _, ?_, hw, .inl ?_⟩
            · cases ok
              · exact (cT_scal hsz).2
              · intro v hv
                simp at hv
                rcases hv with rfl | rfl
                · have := (cT_scal (m := m) (nb := h.nb) hsz).2
                  cases v <;> first | exact this | (simp [scal] at hsz)
                · exact trivial
            · have e : cT m (if ok = true then Value.tuple #[z, .bool false] else z) = if ok = true then Value.tuple #[z, .bool false] else z := by
                cases ok
                · exact (cT_scal (nb := h.nb) hsz).1
                · cases z <;> first | (simp [cT, cA, cv]; done) | (simp [scal] at hsz; done)
              rw [e]
              simp [execOp, ho, ex, ek, hrun, Result.andThen]
        · cases hh
      · cases hh
    · cases hh
  · -- mapUpdate
    rename_i t x k y ho
    split at hh
    · rename_i kt et r s u ht hx hk hy
      split at hh
      · rename_i es hkt hr
        split at hh
        · rename_i hsu
          cases hh
          obtain ⟨ex, -⟩ := evl_eval hf hx
          obtain ⟨ek, -⟩ := evl_eval hf hk
          obtain ⟨ey, -⟩ := evl_eval hf hy
          rw [cT_str] at ek
          rw [(cT_scal (m := m) (nb := h.nb) hsu).1] at ey
          obtain ⟨w1, h1, h2⟩ := update_run hw (s := s) ht hkt hsu hr
          refine .inl ⟨m, w1, Ext.refl, Nat.le_refl _, fun v hv => by simp [undef] at hv, h2, .inr ⟨rfl, ?_⟩⟩
          simp [execOp, ho, ex, ek, ey, h1, Result.andThen]
        · cases hh
      · cases hh
    · cases hh
  · cases hh
end
end Go.Proofs.YteeanpfhngoobaaGreat.Xk
